package tests

import (
	"math"
	"slices"
	"testing"

	"loop.example/g00533/impl"
)

// Numbers on both sides of every limit of the chapter, the ends of int64, and
// numbers whose low bits alone would look like a set or a rank.
func aroundLimits() []int64 {
	l := []int64{math.MinInt64, math.MinInt64 + 1, math.MinInt64 + 41, math.MaxInt64 - 1, math.MaxInt64}
	for _, shift := range []int{8, 16, 31, 32, 33, 62} {
		p := int64(1) << shift
		l = append(l, p-1, p, p+1, p+5, p+41, -p, -p+5, -p+41)
	}
	for n := int64(-140); n <= 140; n++ {
		l = append(l, n)
	}
	return l
}

// membersByHalving tells the members without bit operators, apart from the
// way the program goes.
func membersByHalving(s int64) []int64 {
	var l []int64
	if s < 0 || s > 63 {
		return l
	}
	for rank := int64(0); s > 0; rank++ {
		if s%2 == 1 {
			l = append(l, rank)
		}
		s /= 2
	}
	return l
}

func TestSetOkAtTheEnds(t *testing.T) {
	cases := []struct {
		s    int64
		want bool
	}{
		{0, true}, {1, true}, {41, true}, {62, true}, {63, true},
		{-1, false}, {64, false}, {65, false}, {-64, false}, {128, false},
		{math.MinInt64, false}, {math.MaxInt64, false},
	}
	for _, c := range cases {
		if got := impl.SetOk(c.s); got != c.want {
			t.Errorf("SetOk(%d) = %v, want %v", c.s, got, c.want)
		}
	}
}

func TestInSetAtTheEnds(t *testing.T) {
	cases := []struct {
		s, i int64
		want bool
	}{
		{41, 0, true}, {41, 3, true}, {41, 5, true},
		{41, 1, false}, {41, 2, false}, {41, 4, false},
		{0, 0, false}, {0, 5, false}, {63, 0, true}, {63, 5, true},
		{32, 5, true}, {31, 5, false}, {1, 0, true}, {62, 0, false},
		{63, -1, false}, {63, 6, false}, {63, 63, false}, {63, 64, false},
		{63, math.MinInt64, false}, {63, math.MaxInt64, false},
		{-1, 0, false}, {-1, 5, false}, {64, 0, false}, {64, 6, false}, {65, 0, false},
		{math.MinInt64, 0, false}, {math.MinInt64, 63, false},
		{math.MaxInt64, 0, false}, {math.MaxInt64, 5, false},
		{-1, -1, false}, {64, math.MaxInt64, false}, {math.MinInt64, math.MinInt64, false},
	}
	for _, c := range cases {
		if got := impl.InSet(c.s, c.i); got != c.want {
			t.Errorf("InSet(%d, %d) = %v, want %v", c.s, c.i, got, c.want)
		}
	}
}

func TestMembersAndSizeOfKnownSets(t *testing.T) {
	cases := []struct {
		s    int64
		want []int64
		size int64
	}{
		{0, nil, 0}, {1, []int64{0}, 1}, {32, []int64{5}, 1},
		{6, []int64{1, 2}, 2}, {41, []int64{0, 3, 5}, 3},
		{62, []int64{1, 2, 3, 4, 5}, 5}, {63, []int64{0, 1, 2, 3, 4, 5}, 6},
		{-1, nil, -1}, {64, nil, -1}, {65, nil, -1}, {-64, nil, -1},
		{math.MinInt64, nil, -1}, {math.MaxInt64, nil, -1},
	}
	for _, c := range cases {
		if got := impl.Members(c.s); !slices.Equal(got, c.want) {
			t.Errorf("Members(%d) = %v, want %v", c.s, got, c.want)
		}
		if got := impl.SizeOf(c.s); got != c.size {
			t.Errorf("SizeOf(%d) = %d, want %d", c.s, got, c.size)
		}
	}
}

func TestAllOf(t *testing.T) {
	for n, want := range []int64{0, 1, 3, 7, 15, 31, 63} {
		if got := impl.AllOf(int64(n)); got != want {
			t.Errorf("AllOf(%d) = %d, want %d", n, got, want)
		}
	}
	for _, n := range aroundLimits() {
		if got := impl.AllOf(n); (n < 0 || n > 6) && got != -1 {
			t.Errorf("AllOf(%d) = %d, want -1", n, got)
		}
	}
}

// Promise 1: what SetOk, InSet, Members and SizeOf tell of a set is one thing.
func TestASetHasItsMembers(t *testing.T) {
	numbers := aroundLimits()
	for _, s := range numbers {
		want := membersByHalving(s)
		right := s >= 0 && s <= 63
		size := int64(len(want))
		if !right {
			size = -1
		}
		if got := impl.SetOk(s); got != right {
			t.Errorf("SetOk(%d) = %v, want %v", s, got, right)
		}
		if got := impl.Members(s); !slices.Equal(got, want) {
			t.Errorf("Members(%d) = %v, want %v", s, got, want)
		}
		if got := impl.SizeOf(s); got != size {
			t.Errorf("SizeOf(%d) = %d, want %d", s, got, size)
		}
		for _, i := range numbers {
			if got := impl.InSet(s, i); got != slices.Contains(want, i) {
				t.Errorf("InSet(%d, %d) = %v, want %v", s, i, got, !got)
			}
		}
	}
}

func TestMembersRise(t *testing.T) {
	for s := int64(0); s <= 63; s++ {
		l := impl.Members(s)
		for k := 1; k < len(l); k++ {
			if l[k-1] >= l[k] {
				t.Errorf("Members(%d) = %v does not rise", s, l)
			}
		}
	}
}

func TestMembersAreNewMemory(t *testing.T) {
	for s := int64(-1); s <= 64; s++ {
		want := membersByHalving(s)
		first, second := impl.Members(s), impl.Members(s)
		spoil(first)
		if !slices.Equal(second, want) {
			t.Errorf("Members(%d): an answer changed with another one: %v, want %v", s, second, want)
		}
		if third := impl.Members(s); !slices.Equal(third, want) {
			t.Errorf("Members(%d): a later answer is %v, want %v", s, third, want)
		}
	}
}

// fill writes over a list and the spare room behind it.
func fill[T any](l []T, value T) {
	l = l[:cap(l)]
	for k := range l {
		l[k] = value
	}
}

func spoil(l []int64) { fill(l, -77) }

package tests

import (
	"math"
	"slices"
	"strings"
	"testing"

	"loop.example/g00533/impl"
)

type knownOrder struct {
	name  string
	ups   []int64
	text  string
	chain bool
}

func knownOrders() []knownOrder {
	return []knownOrder{
		{"one rank", []int64{1}, "1", true},
		{"two, rising", []int64{3, 2}, "11/01", true},
		{"two, falling", []int64{1, 3}, "10/11", true},
		{"two apart", []int64{1, 2}, "10/01", false},
		{"a chain of three, mixed", []int64{5, 7, 4}, "101/111/001", true},
		{"three apart", []int64{1, 2, 4}, "100/010/001", false},
		{"a fork", []int64{7, 2, 4}, "111/010/001", false},
		{"a diamond", []int64{15, 10, 12, 8}, "1111/0101/0011/0001", false},
		{"six apart", []int64{1, 2, 4, 8, 16, 32}, "100000/010000/001000/000100/000010/000001", false},
		{"a chain of six", []int64{63, 62, 60, 56, 48, 32}, "111111/011111/001111/000111/000011/000001", true},
		{"a chain of six, falling", []int64{1, 3, 7, 15, 31, 63}, "100000/110000/111000/111100/111110/111111", true},
		{"five below rank 5", []int64{33, 34, 36, 40, 48, 32}, "100001/010001/001001/000101/000011/000001", false},
	}
}

// wrongUps are orders that break one thing each.
func wrongUps() map[string][]int64 {
	return map[string][]int64{
		"no rank":                      nil,
		"no rank, not nil":             {},
		"seven ranks apart":            {1, 2, 4, 8, 16, 32, 64},
		"seven ranks, six sets right":  {1, 2, 4, 8, 16, 32, 32},
		"one that is not in its own":   {0},
		"one that names rank 1":        {3},
		"one that names rank 1 alone":  {2},
		"one below 0":                  {-1},
		"one at the low end":           {math.MinInt64 + 1},
		"one at the high end":          {math.MaxInt64},
		"the low bits alone are right": {1 + 1<<32},
		"two of which 1 is not in its": {3, 0},
		"two of which 0 is not in its": {2, 2},
		"two in one another's":         {3, 3},
		"two, a rank past the end":     {3, 6},
		"two, 64":                      {64, 2},
		"two, 65":                      {65, 2},
		"two, below 0":                 {3, -2},
		"three that do not go on":      {3, 6, 4},
		"three that go round":          {3, 6, 5},
		"three, two in one another's":  {7, 6, 6},
		"six, not going on at the end": {1, 2, 4, 24, 48, 32},
		"six, 5 not in its own":        {63, 62, 60, 56, 48, 0},
		"six, 64 at the end":           {63, 62, 60, 56, 48, 96},
		"six, 0 and 5 in one another":  {63, 62, 60, 56, 48, 33},
	}
}

// orderByRule asks the laws rank by rank, with no sets but for reading them.
func orderByRule(ups []int64) bool {
	n := int64(len(ups))
	if n < 1 || n > 6 {
		return false
	}
	var in [6][6]bool
	for a, s := range ups {
		if s < 0 || s > 63 {
			return false
		}
		for _, b := range membersByHalving(s) {
			if b >= n {
				return false
			}
			in[a][b] = true
		}
	}
	for a := range n {
		for b := range n {
			if a == b && !in[a][b] || a != b && in[a][b] && in[b][a] {
				return false
			}
			for c := range n {
				if in[a][b] && in[b][c] && !in[a][c] {
					return false
				}
			}
		}
	}
	return true
}

// everyUps calls f with each list of n sets of ranks there are.
func everyUps(n int, f func(ups []int64)) {
	ups := make([]int64, n)
	var fill func(k int)
	fill = func(k int) {
		if k == n {
			f(ups)
			return
		}
		for s := int64(0); s < 1<<n; s++ {
			ups[k] = s
			fill(k + 1)
		}
	}
	fill(0)
}

func textByRule(ups []int64) string {
	var lines []string
	for _, s := range ups {
		line := ""
		for b := range ups {
			if slices.Contains(membersByHalving(s), int64(b)) {
				line += "1"
			} else {
				line += "0"
			}
		}
		lines = append(lines, line)
	}
	return strings.Join(lines, "/")
}

func TestKnownOrders(t *testing.T) {
	for _, k := range knownOrders() {
		o := impl.Order{Ups: k.ups}
		if !impl.OrderOk(o) {
			t.Errorf("%s: not OrderOk", k.name)
		}
		if got := impl.IsChain(o); got != k.chain {
			t.Errorf("%s: IsChain = %v, want %v", k.name, got, k.chain)
		}
		if got := impl.ShowOrder(o); got != k.text {
			t.Errorf("%s: ShowOrder = %q, want %q", k.name, got, k.text)
		}
		read, is := impl.ReadOrder(k.text)
		if !is || !slices.Equal(read.Ups, k.ups) {
			t.Errorf("%s: ReadOrder(%q) = %v, %v, want %v", k.name, k.text, read.Ups, is, k.ups)
		}
	}
}

func TestBelowAndDownsOfKnownOrders(t *testing.T) {
	diamond := impl.Order{Ups: []int64{15, 10, 12, 8}}
	falling := impl.Order{Ups: []int64{1, 3, 7, 15, 31, 63}}
	apart := impl.Order{Ups: []int64{1, 2, 4, 8, 16, 32}}
	cases := []struct {
		o     impl.Order
		downs []int64
	}{
		{impl.Order{Ups: []int64{1}}, []int64{1}},
		{diamond, []int64{1, 3, 5, 15}},
		{falling, []int64{63, 62, 60, 56, 48, 32}},
		{apart, []int64{1, 2, 4, 8, 16, 32}},
	}
	for _, c := range cases {
		for b, want := range c.downs {
			if got := impl.DownsOf(c.o, int64(b)); got != want {
				t.Errorf("DownsOf(%v, %d) = %d, want %d", c.o.Ups, b, got, want)
			}
			for a := range c.downs {
				below := slices.Contains(membersByHalving(want), int64(a))
				if got := impl.Below(c.o, int64(a), int64(b)); got != below {
					t.Errorf("Below(%v, %d, %d) = %v, want %v", c.o.Ups, a, b, got, below)
				}
			}
		}
	}
}

func TestRanksThatAreNotThere(t *testing.T) {
	for _, k := range knownOrders() {
		o := impl.Order{Ups: k.ups}
		n := int64(len(k.ups))
		for _, rank := range aroundLimits() {
			if rank >= 0 && rank < n {
				continue
			}
			if got := impl.DownsOf(o, rank); got != -1 {
				t.Errorf("%s: DownsOf(%d) = %d, want -1", k.name, rank, got)
			}
			for _, other := range []int64{0, n - 1, n, -1, rank} {
				if impl.Below(o, rank, other) || impl.Below(o, other, rank) {
					t.Errorf("%s: Below of %d and %d is true", k.name, rank, other)
				}
			}
		}
	}
}

func checkRefused(t *testing.T, ups []int64) {
	t.Helper()
	o := impl.Order{Ups: ups}
	if impl.OrderOk(o) || impl.IsChain(o) {
		t.Errorf("%v: OrderOk %v, IsChain %v, want both false", ups, impl.OrderOk(o), impl.IsChain(o))
	}
	if got := impl.ShowOrder(o); got != "" {
		t.Errorf("%v: ShowOrder = %q, want nothing", ups, got)
	}
	for a := int64(-1); a <= 7; a++ {
		if got := impl.DownsOf(o, a); got != -1 {
			t.Errorf("%v: DownsOf(%d) = %d, want -1", ups, a, got)
		}
		for b := int64(-1); b <= 7; b++ {
			if impl.Below(o, a, b) {
				t.Errorf("%v: Below(%d, %d) is true", ups, a, b)
			}
		}
	}
	if read, is := impl.ReadOrder(textByRule(ups)); is || len(read.Ups) != 0 {
		t.Errorf("ReadOrder(%q) = %v, %v, want the zero Order and false", textByRule(ups), read.Ups, is)
	}
}

func TestOrdersThatAreNotRight(t *testing.T) {
	for name, ups := range wrongUps() {
		if orderByRule(ups) {
			t.Fatalf("%s: this one is right", name)
		}
		o := impl.Order{Ups: ups}
		if impl.OrderOk(o) || impl.IsChain(o) || impl.ShowOrder(o) != "" {
			t.Errorf("%s: OrderOk %v, IsChain %v, ShowOrder %q", name, impl.OrderOk(o), impl.IsChain(o), impl.ShowOrder(o))
		}
		for a := int64(-1); a <= 7; a++ {
			if got := impl.DownsOf(o, a); got != -1 {
				t.Errorf("%s: DownsOf(%d) = %d, want -1", name, a, got)
			}
			for b := int64(-1); b <= 7; b++ {
				if impl.Below(o, a, b) {
					t.Errorf("%s: Below(%d, %d) is true", name, a, b)
				}
			}
		}
	}
}

func TestEverySetAloneAsAnOrder(t *testing.T) {
	for _, s := range aroundLimits() {
		if got := impl.OrderOk(impl.Order{Ups: []int64{s}}); got != (s == 1) {
			t.Errorf("OrderOk of one rank with Ups %d = %v", s, got)
		}
		if got, want := impl.OrderOk(impl.Order{Ups: []int64{s, 2}}), s == 1 || s == 3; got != want {
			t.Errorf("OrderOk of Ups %d, 2 = %v", s, got)
		}
	}
}

// There are 1, 3, 19 and 219 orders of 1 to 4 ranks that are told apart.
func TestEveryOrderOfUpToFourRanks(t *testing.T) {
	for n, want := range []int{0, 1, 3, 19, 219} {
		count := 0
		if n == 0 {
			continue
		}
		everyUps(n, func(ups []int64) {
			right := orderByRule(ups)
			if got := impl.OrderOk(impl.Order{Ups: ups}); got != right {
				t.Errorf("OrderOk(%v) = %v, want %v", ups, got, right)
			}
			if right {
				count++
				checkRight(t, ups)
			} else if n < 4 {
				checkRefused(t, ups)
			}
		})
		if count != want {
			t.Errorf("%d orders of %d ranks, want %d", count, n, want)
		}
	}
}

// Promise 2: to be Below goes on, and what is shown is read as the order.
func checkRight(t *testing.T, ups []int64) {
	t.Helper()
	o := impl.Order{Ups: ups}
	n := int64(len(ups))
	chain := true
	for a := range n {
		for b := range n {
			in := slices.Contains(membersByHalving(ups[a]), b)
			if got := impl.Below(o, a, b); got != in {
				t.Errorf("Below(%v, %d, %d) = %v, want %v", ups, a, b, got, in)
			}
			if got := slices.Contains(membersByHalving(impl.DownsOf(o, b)), a); got != in {
				t.Errorf("%d is in DownsOf(%v, %d): %v, want %v", a, ups, b, got, in)
			}
			for c := range n {
				if impl.Below(o, a, b) && impl.Below(o, b, c) && !impl.Below(o, a, c) {
					t.Errorf("%v: %d Below %d Below %d does not go on", ups, a, b, c)
				}
			}
			chain = chain && (impl.Below(o, a, b) || impl.Below(o, b, a))
		}
	}
	if got := impl.IsChain(o); got != chain {
		t.Errorf("IsChain(%v) = %v, want %v", ups, got, chain)
	}
	text := impl.ShowOrder(o)
	if text != textByRule(ups) {
		t.Errorf("ShowOrder(%v) = %q, want %q", ups, text, textByRule(ups))
	}
	read, is := impl.ReadOrder(text)
	if !is || !slices.Equal(read.Ups, ups) || impl.ShowOrder(read) != text {
		t.Errorf("ReadOrder(%q) = %v, %v, want %v", text, read.Ups, is, ups)
	}
}

func TestOrdersOfFiveAndSixRanks(t *testing.T) {
	for _, ups := range [][]int64{
		{31, 30, 28, 24, 16}, {31, 18, 20, 24, 16}, {1, 2, 4, 8, 16}, {1, 3, 5, 9, 31},
		{63, 62, 60, 56, 48, 32}, {63, 42, 44, 40, 48, 32}, {1, 2, 4, 8, 16, 32},
		{1, 3, 7, 15, 31, 63}, {33, 34, 36, 40, 48, 32}, {63, 2, 4, 8, 16, 32},
		{1, 2, 4, 56, 48, 32}, {35, 34, 44, 40, 16, 32},
	} {
		if !orderByRule(ups) || !impl.OrderOk(impl.Order{Ups: ups}) {
			t.Errorf("%v is not OrderOk", ups)
			continue
		}
		checkRight(t, ups)
	}
}

// Each set of a right order of six ranks, changed by each one bit.
func TestOrdersOneBitAway(t *testing.T) {
	for _, k := range knownOrders() {
		for rank := range k.ups {
			for bit := range 63 {
				ups := slices.Clone(k.ups)
				ups[rank] ^= 1 << bit
				want := orderByRule(ups)
				if got := impl.OrderOk(impl.Order{Ups: ups}); got != want {
					t.Errorf("OrderOk(%v) = %v, want %v", ups, got, want)
				}
			}
		}
	}
}

func TestTextsThatAreNoOrder(t *testing.T) {
	for _, s := range []string{
		"", "/", "//", "0", "2", " ", "a", "1/", "/1", "1 ", " 1", "1\n", "1/1", "11", "1//1",
		"11/01/", "/11/01", "11//01", "11 /01", "11/ 01", "11/0", "11/011", "1/01", "111/01", "1101",
		"12/01", "11/21", "1x/01", "11/0\x00", "1\xff/01", "11\\01", "11/0O", "1\u0661/01", "11|01",
		"11/11", "01/01", "10/00", "10/10", "110/011/001", "110/011/101", "111/011/011",
		"1111/0101/0011", "1111/0101/0011/000", "1111/0101/0011/0001/", "1111/0101/0011/00010",
		"111111/011111/001111/000111/000011/000000", "111111/011111/001111/000111/000011/00001",
		"1000000/0100000/0010000/0001000/0000100/0000010/0000001", "1111111",
		"100000/010000/001000/000100/000010/000001/000001", strings.Repeat("1", 200),
		strings.Repeat("1/", 100), strings.Repeat("/", 5), strings.Repeat("/", 1000),
		"-1", "+1", "01", "1.0",
	} {
		if o, is := impl.ReadOrder(s); is || len(o.Ups) != 0 {
			t.Errorf("ReadOrder(%q) = %v, %v, want the zero Order and false", s, o.Ups, is)
		}
	}
}

// Every text of up to seven of these signs is read where it is one that the
// rule writes, and is then shown again as it was.
func TestEveryShortTextAsAnOrder(t *testing.T) {
	right := map[string]bool{}
	for n := 1; n <= 2; n++ {
		everyUps(n, func(ups []int64) {
			if orderByRule(ups) {
				right[textByRule(ups)] = true
			}
		})
	}
	var grow func(s string)
	grow = func(s string) {
		o, is := impl.ReadOrder(s)
		if is != right[s] || is && impl.ShowOrder(o) != s || !is && len(o.Ups) != 0 {
			t.Errorf("ReadOrder(%q) = %v, %v", s, o.Ups, is)
		}
		if len(s) < 7 {
			for _, sign := range "01/2" {
				grow(s + string(sign))
			}
		}
	}
	grow("")
}

// inRoom gives a list that has room behind it, and all of that room.
func inRoom[T any](l []T, spare T) (list []T, room []T) {
	room = make([]T, len(l)+5)
	fill(room, spare)
	copy(room, l)
	return room[:len(l)], room
}

func withSpareRoom(l []int64) (list []int64, room []int64) { return inRoom(l, -99) }

func TestOrdersHandedInStay(t *testing.T) {
	lists := [][]int64{{}, {0}, {3, 3}, {3, 6, 4}, {1, 2, 4, 8, 16, 32, 64}}
	for _, k := range knownOrders() {
		lists = append(lists, k.ups)
	}
	for _, ups := range lists {
		list, room := withSpareRoom(ups)
		before := slices.Clone(room)
		o := impl.Order{Ups: list}
		impl.OrderOk(o)
		impl.IsChain(o)
		impl.ShowOrder(o)
		for a := int64(-1); a <= 6; a++ {
			impl.DownsOf(o, a)
			for b := int64(-1); b <= 6; b++ {
				impl.Below(o, a, b)
			}
		}
		if !slices.Equal(room, before) {
			t.Errorf("the Ups %v and the room behind them became %v", before, room)
		}
	}
}

// What stands in the spare room is no part of the order.
func TestSpareRoomIsNotRead(t *testing.T) {
	room := []int64{63, 62, 60, 56, 48, 32, 1}
	if impl.OrderOk(impl.Order{Ups: room[:5]}) {
		t.Error("five sets that name a sixth rank are OrderOk")
	}
	if !impl.OrderOk(impl.Order{Ups: room[:6]}) {
		t.Error("the chain of six is not OrderOk with room behind it")
	}
	if impl.OrderOk(impl.Order{Ups: room[:0]}) {
		t.Error("no set is OrderOk with room behind it")
	}
}

func TestReadOrdersAreNewMemory(t *testing.T) {
	for _, k := range knownOrders() {
		first, _ := impl.ReadOrder(k.text)
		second, _ := impl.ReadOrder(k.text)
		spoil(first.Ups)
		third, _ := impl.ReadOrder(k.text)
		if !slices.Equal(second.Ups, k.ups) || !slices.Equal(third.Ups, k.ups) {
			t.Errorf("ReadOrder(%q): other answers are %v and %v, want %v", k.text, second.Ups, third.Ups, k.ups)
		}
	}
}

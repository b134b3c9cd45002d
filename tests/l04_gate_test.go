package tests

import (
	"math"
	"slices"
	"strings"
	"testing"

	"loop.example/g00533/impl"
)

// In seen and own there is a word of gate numbers for each rank, - for none.
type knownGates struct {
	name  string
	order string
	gates []int64
	seen  string
	own   string
}

func knownGateLists() []knownGates {
	return []knownGates{
		{"one rank, one gate", "1", []int64{0}, "0", "0"},
		{"one rank, four gates", "1", []int64{0, 0, 0, 0}, "0123", "0123"},
		{"two, rising", "11/01", []int64{0, 1}, "0 01", "0 1"},
		{"two, falling", "10/11", []int64{0, 1}, "01 1", "0 1"},
		{"two, the gate above", "11/01", []int64{1}, "- 0", "- 0"},
		{"two, the gate below", "11/01", []int64{0}, "0 0", "0 -"},
		{"a chain, 1 then 0 then 2", "101/111/001", []int64{2, 0, 1}, "12 2 012", "1 2 0"},
		{"a diamond", "1111/0101/0011/0001", []int64{1, 0, 2, 1}, "1 013 12 0123", "1 03 2 -"},
		{"a diamond, its sides", "1111/0101/0011/0001", []int64{2, 1}, "- 1 0 01", "- 1 0 -"},
		{"a diamond upside down", "1000/1100/1010/1111", []int64{3, 0, 1, 2}, "0123 02 03 0", "1 2 3 0"},
		{"three side by side", "11111/01001/00101/00011/00001", []int64{3, 2, 1, 3}, "- 2 1 03 0123", "- 2 1 03 -"},
		{"a chain of six, one gate", "111111/011111/001111/000111/000011/000001", []int64{5}, "- - - - - 0", "- - - - - 0"},
		{"a chain of six, four gates", "111111/011111/001111/000111/000011/000001", []int64{5, 0, 3, 3}, "1 1 1 123 123 0123", "1 - - 23 - 0"},
		{"two rows of three", "111111/011011/001001/000111/000011/000001", []int64{1, 3, 2, 4}, "- 0 02 1 013 0123", "- 0 2 1 3 -"},
	}
}

func digitsOf(word string) []int64 {
	var l []int64
	for _, sign := range strings.Trim(word, "-") {
		l = append(l, int64(sign-'0'))
	}
	return l
}

func TestKnownGates(t *testing.T) {
	for _, k := range knownGateLists() {
		o, is := impl.ReadOrder(k.order)
		if !is || !impl.GatesOk(o, k.gates) {
			t.Errorf("%s: not GatesOk", k.name)
			continue
		}
		seen, own := strings.Fields(k.seen), strings.Fields(k.own)
		if len(seen) != len(o.Ups) || len(own) != len(o.Ups) {
			t.Fatalf("%s: not a word for each rank", k.name)
		}
		for r := range o.Ups {
			rank := int64(r)
			if got, want := impl.SeenBy(o, k.gates, rank), digitsOf(seen[r]); !slices.Equal(got, want) {
				t.Errorf("%s: SeenBy(%d) = %v, want %v", k.name, rank, got, want)
			}
			if got, want := impl.OwnOf(o, k.gates, rank), digitsOf(own[r]); !slices.Equal(got, want) {
				t.Errorf("%s: OwnOf(%d) = %v, want %v", k.name, rank, got, want)
			}
			for g := range int64(len(k.gates)) {
				want := slices.Contains(digitsOf(seen[r]), g)
				if got := impl.MaySee(o, k.gates, rank, g); got != want {
					t.Errorf("%s: MaySee(%d, %d) = %v, want %v", k.name, rank, g, got, want)
				}
			}
		}
	}
}

// everyGates calls f with each list of one to most gates of n ranks.
func everyGates(n int64, most int, f func(gates []int64)) {
	var grow func(gates []int64)
	grow = func(gates []int64) {
		if len(gates) > 0 {
			f(gates)
		}
		if len(gates) < most {
			for rank := range n {
				grow(append(slices.Clone(gates), rank))
			}
		}
	}
	grow(nil)
}

// checkGates goes by who is in whose Ups, and then by promise 4: who is above
// sees no less.
func checkGates(t *testing.T, ups []int64, in [6][6]bool, gates []int64) {
	t.Helper()
	o := impl.Order{Ups: ups}
	n := int64(len(ups))
	if !impl.GatesOk(o, gates) {
		t.Fatalf("GatesOk(%v, %v) is false", ups, gates)
	}
	var seen [6][]int64
	for rank := range n {
		var see, own []int64
		for g, r := range gates {
			if in[r][rank] {
				see = append(see, int64(g))
			}
			if r == rank {
				own = append(own, int64(g))
			}
			if got := impl.MaySee(o, gates, rank, int64(g)); got != in[r][rank] {
				t.Errorf("MaySee(%v, %v, %d, %d) = %v, want %v", ups, gates, rank, g, got, in[r][rank])
			}
		}
		seen[rank] = impl.SeenBy(o, gates, rank)
		if !slices.Equal(seen[rank], see) {
			t.Errorf("SeenBy(%v, %v, %d) = %v, want %v", ups, gates, rank, seen[rank], see)
		}
		if got := impl.OwnOf(o, gates, rank); !slices.Equal(got, own) || !holdsAll(seen[rank], got) {
			t.Errorf("OwnOf(%v, %v, %d) = %v, want %v, all of them in %v", ups, gates, rank, got, own, seen[rank])
		}
	}
	for a := range n {
		for b := range n {
			if impl.Below(o, a, b) && !holdsAll(seen[b], seen[a]) {
				t.Errorf("%v, %v: %d is above %d and sees %v, not all of %v", ups, gates, b, a, seen[b], seen[a])
			}
		}
	}
}

func holdsAll(l []int64, part []int64) bool {
	for _, one := range part {
		if !slices.Contains(l, one) {
			return false
		}
	}
	return true
}

// Promise 4 with every list of gates over every lattice of up to four ranks.
func TestWhoIsAboveSeesNoLess(t *testing.T) {
	for n := 1; n <= 4; n++ {
		everyUps(n, func(ups []int64) {
			if !orderByRule(ups) || !impl.LatticeOk(impl.Order{Ups: ups}) {
				return
			}
			in := inByRule(ups)
			everyGates(int64(n), 4, func(gates []int64) { checkGates(t, ups, in, gates) })
		})
	}
}

func TestWhoIsAboveSeesNoLessOfUpToSixRanks(t *testing.T) {
	for _, k := range knownLattices() {
		o, _ := impl.ReadOrder(k.order)
		in := inByRule(o.Ups)
		everyGates(int64(len(o.Ups)), 4, func(gates []int64) { checkGates(t, o.Ups, in, gates) })
	}
	for n := 5; n <= 6; n++ {
		everyRising(n, func(ups []int64) {
			if !impl.LatticeOk(impl.Order{Ups: ups}) {
				return
			}
			in := inByRule(ups)
			everyGates(int64(n), 2, func(gates []int64) { checkGates(t, ups, in, gates) })
		})
	}
}

// checkNoGates asks for the one answer of each function to what is not right.
func checkNoGates(t *testing.T, name string, o impl.Order, gates []int64) {
	t.Helper()
	if impl.GatesOk(o, gates) {
		t.Errorf("%s: GatesOk of %v", name, gates)
	}
	for _, rank := range []int64{math.MinInt64, -1, 0, 1, 2, 3, 4, 5, 6, 7, math.MaxInt64} {
		checkNothingSeen(t, name, o, gates, rank)
	}
}

func checkNothingSeen(t *testing.T, name string, o impl.Order, gates []int64, rank int64) {
	t.Helper()
	if got := impl.SeenBy(o, gates, rank); len(got) != 0 {
		t.Errorf("%s: SeenBy(%v, %d) = %v, want nothing", name, gates, rank, got)
	}
	if got := impl.OwnOf(o, gates, rank); len(got) != 0 {
		t.Errorf("%s: OwnOf(%v, %d) = %v, want nothing", name, gates, rank, got)
	}
	for _, g := range []int64{math.MinInt64, -1, 0, 1, 2, 3, 4, 5, 6, math.MaxInt64} {
		if impl.MaySee(o, gates, rank, g) {
			t.Errorf("%s: MaySee(%v, %d, %d) is true", name, gates, rank, g)
		}
	}
}

func TestGatesOfWhatIsNoOrder(t *testing.T) {
	for name, ups := range wrongUps() {
		for _, gates := range [][]int64{nil, {0}, {1}, {0, 1}, {0, 0, 0, 0}, {5, 4, 3, 2}, {-1}, {0, 0, 0, 0, 0}} {
			checkNoGates(t, name, impl.Order{Ups: ups}, gates)
		}
	}
}

func TestGatesOfOrdersThatAreNoLattice(t *testing.T) {
	for _, k := range knownNoLattices() {
		o, is := impl.ReadOrder(k.order)
		if !is {
			t.Fatalf("%s: no order", k.name)
		}
		everyGates(int64(len(o.Ups)), 2, func(gates []int64) { checkNoGates(t, k.name, o, gates) })
		for _, gates := range [][]int64{nil, {0, 1, 0, 1}, {-1}, {0, 0, 0, 0, 0}} {
			checkNoGates(t, k.name, o, gates)
		}
	}
}

func TestNoGatesAndTooManyGates(t *testing.T) {
	for _, k := range knownLattices() {
		o, _ := impl.ReadOrder(k.order)
		last := int64(len(o.Ups)) - 1
		for _, gates := range [][]int64{
			nil, {}, {0, 0, 0, 0, 0}, {0, last, 0, last, 0}, {last, last, last, last, last, last}, make([]int64, 100),
		} {
			checkNoGates(t, k.name, o, gates)
		}
		for count := 1; count <= 4; count++ {
			for _, rank := range []int64{0, last} {
				if gates := slices.Repeat([]int64{rank}, count); !impl.GatesOk(o, gates) {
					t.Errorf("%s: GatesOk of %v is false", k.name, gates)
				}
			}
		}
	}
}

// One gate at each place, of one to four, has a rank that is not there.
func TestGatesOfRanksThatAreNotThere(t *testing.T) {
	for _, k := range knownLattices() {
		o, _ := impl.ReadOrder(k.order)
		n := int64(len(o.Ups))
		for _, rank := range []int64{-1, n, n + 1, 6, 7, 63, 64, -64, 1 << 32, -1 << 32, math.MinInt64, math.MaxInt64} {
			for count := 1; count <= 4; count++ {
				for place := range count {
					gates := make([]int64, count)
					gates[place] = rank
					checkNoGates(t, k.name, o, gates)
				}
			}
		}
	}
}

func TestWhatRanksThatAreNotThereSee(t *testing.T) {
	for _, k := range knownGateLists() {
		o, _ := impl.ReadOrder(k.order)
		for _, rank := range aroundLimits() {
			if rank < 0 || rank >= int64(len(o.Ups)) {
				checkNothingSeen(t, k.name, o, k.gates, rank)
			}
		}
	}
}

func TestGatesThatAreNotThereAreNotSeen(t *testing.T) {
	for _, k := range knownGateLists() {
		o, _ := impl.ReadOrder(k.order)
		for _, g := range aroundLimits() {
			if g >= 0 && g < int64(len(k.gates)) {
				continue
			}
			for rank := int64(-1); rank <= int64(len(o.Ups)); rank++ {
				if impl.MaySee(o, k.gates, rank, g) {
					t.Errorf("%s: MaySee(%d, %d) is true", k.name, rank, g)
				}
			}
		}
	}
}

func TestOrdersAndGatesHandedInStay(t *testing.T) {
	upsLists := [][]int64{{}, {0}, {3, 3}, {1, 2}, {1, 2, 4, 8, 16, 32, 64}}
	for _, k := range knownLattices() {
		o, _ := impl.ReadOrder(k.order)
		upsLists = append(upsLists, o.Ups)
	}
	for _, ups := range upsLists {
		for _, gates := range [][]int64{{}, {0}, {0, 0, 0, 0}, {1, 0}, {0, 1, 2, 3}, {3, 2, 1, 0}, {-1, 6}, {0, 0, 0, 0, 0}} {
			upsList, upsRoom := withSpareRoom(ups)
			gateList, gateRoom := withSpareRoom(gates)
			upsBefore, gatesBefore := slices.Clone(upsRoom), slices.Clone(gateRoom)
			o := impl.Order{Ups: upsList}
			impl.GatesOk(o, gateList)
			for rank := int64(-1); rank <= 6; rank++ {
				// What is handed back is no part of what was handed in, so
				// that writing over it changes none of that.
				spoil(impl.SeenBy(o, gateList, rank))
				spoil(impl.OwnOf(o, gateList, rank))
				for g := int64(-1); g <= 5; g++ {
					impl.MaySee(o, gateList, rank, g)
				}
			}
			if !slices.Equal(upsRoom, upsBefore) {
				t.Errorf("gates %v: the Ups %v and the room behind them became %v", gates, upsBefore, upsRoom)
			}
			if !slices.Equal(gateRoom, gatesBefore) {
				t.Errorf("Ups %v: the gates %v and the room behind them became %v", ups, gatesBefore, gateRoom)
			}
		}
	}
}

func TestSpareRoomIsNoGate(t *testing.T) {
	o := impl.Order{Ups: []int64{15, 10, 12, 8}}
	room := []int64{1, 0, 0, 3, 0}
	if impl.MaySee(o, room[:2], 3, 2) || !impl.MaySee(o, room[:3], 3, 2) {
		t.Error("MaySee reads the room behind the gates")
	}
	if seen, own := impl.SeenBy(o, room[:2], 3), impl.OwnOf(o, room[:2], 0); !slices.Equal(seen, []int64{0, 1}) || !slices.Equal(own, []int64{1}) {
		t.Errorf("with room behind the gates SeenBy is %v, OwnOf %v", seen, own)
	}
	if impl.GatesOk(o, room[:0]) || !impl.GatesOk(o, room[:4]) || impl.GatesOk(o, room) {
		t.Error("GatesOk reads the room behind the gates")
	}
	if impl.GatesOk(impl.Order{Ups: []int64{3, 2, 4}[:2]}, []int64{2}) {
		t.Error("GatesOk takes a rank from the room behind the Ups")
	}
}

func TestSeenAndOwnGatesAreNewMemory(t *testing.T) {
	for _, k := range knownGateLists() {
		o, _ := impl.ReadOrder(k.order)
		seen, own := strings.Fields(k.seen), strings.Fields(k.own)
		for r := range o.Ups {
			rank := int64(r)
			firstSeen, secondSeen := impl.SeenBy(o, k.gates, rank), impl.SeenBy(o, k.gates, rank)
			firstOwn, secondOwn := impl.OwnOf(o, k.gates, rank), impl.OwnOf(o, k.gates, rank)
			spoil(firstSeen)
			spoil(firstOwn)
			thirdSeen, thirdOwn := impl.SeenBy(o, k.gates, rank), impl.OwnOf(o, k.gates, rank)
			if want := digitsOf(seen[r]); !slices.Equal(secondSeen, want) || !slices.Equal(thirdSeen, want) {
				t.Errorf("%s: SeenBy(%d): other answers are %v and %v, want %v", k.name, rank, secondSeen, thirdSeen, want)
			}
			if want := digitsOf(own[r]); !slices.Equal(secondOwn, want) || !slices.Equal(thirdOwn, want) {
				t.Errorf("%s: OwnOf(%d): other answers are %v and %v, want %v", k.name, rank, secondOwn, thirdOwn, want)
			}
		}
	}
}

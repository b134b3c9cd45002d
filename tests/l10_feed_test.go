package tests

import (
	"fmt"
	"math"
	"regexp"
	"slices"
	"strconv"
	"strings"
	"testing"

	"loop.example/g00533/impl"
)

func latticeByRule(ups []int64) bool {
	if !orderByRule(ups) {
		return false
	}
	in := inByRule(ups)
	out, n := turnedByRule(in), int64(len(ups))
	for a := range n {
		for b := range n {
			if leastAbove(in, n, a, b) < 0 || leastAbove(out, n, a, b) < 0 {
				return false
			}
		}
	}
	return true
}

func hallByRule(h impl.Hall) bool {
	if !latticeByRule(h.Order.Ups) || !slotsByRule(h.Slots) || len(h.Slots) != len(h.Gates) {
		return false
	}
	return slices.Min(h.Gates) >= 0 && slices.Max(h.Gates) < int64(len(h.Order.Ups))
}

// viewByRule is nil where there is no such rank or no right Hall.
func viewByRule(h impl.Hall, rank int64) [][]int64 {
	if !hallByRule(h) || rank < 0 || rank >= int64(len(h.Order.Ups)) {
		return nil
	}
	in, view := inByRule(h.Order.Ups), [][]int64{}
	for g, own := range h.Gates {
		slot := []int64{}
		if in[own][rank] {
			slot = h.Slots[g]
		}
		view = append(view, slot)
	}
	return view
}

func alikeByRule(a impl.Hall, b impl.Hall, rank int64) bool {
	view := viewByRule(a, rank)
	same := slices.Equal(a.Order.Ups, b.Order.Ups) && slices.Equal(a.Gates, b.Gates)
	return view != nil && same && slotsAlike(view, viewByRule(b, rank))
}

func itemIn(view [][]int64, g int64, k int64) int64 {
	for gate, slot := range view {
		for place, item := range slot {
			if int64(gate) == g && int64(place) == k {
				return item
			}
		}
	}
	return 0
}

// slotsAlike takes an empty list and nil for the same.
func slotsAlike(a [][]int64, b [][]int64) bool { return slices.EqualFunc(a, b, slices.Equal[[]int64]) }

func slotsCloned(slots [][]int64) [][]int64 {
	out := [][]int64{}
	for _, slot := range slots {
		out = append(out, slices.Clone(slot))
	}
	return out
}

// ranksToTry are ranks there may be, some that are not there and both ends.
func ranksToTry() []int64 {
	return []int64{math.MinInt64, -1 << 32, -7, -1, 0, 1, 2, 3, 4, 5, 6, 7, 63, 64, 1 << 32, math.MaxInt64}
}

func placesToTry() []int64 {
	return []int64{math.MinInt64, -1 << 32, -2, -1, 0, 1, 2, 3, 4, 5, 38, 39, 40, 41, 1 << 32, 1<<32 + 1, math.MaxInt64}
}

func checkView(t *testing.T, h impl.Hall, rank int64, want [][]int64) {
	t.Helper()
	if got := impl.ViewOf(h, rank); !slotsAlike(got, want) {
		t.Errorf("ViewOf(%.200v, %d) = %.200v, want %.200v", h, rank, got, want)
	}
}

func checkItem(t *testing.T, h impl.Hall, rank int64, g int64, k int64, want int64) {
	t.Helper()
	if got := impl.ItemAt(h, rank, g, k); got != want {
		t.Errorf("ItemAt(%.200v, %d, %d, %d) = %d, want %d", h, rank, g, k, got, want)
	}
}

func checkAlike(t *testing.T, a impl.Hall, b impl.Hall, rank int64, want bool) {
	t.Helper()
	if impl.AlikeTo(a, b, rank) != want || impl.AlikeTo(b, a, rank) != want {
		t.Errorf("AlikeTo(%.200v, %.200v, %d) is %v, the other way round %v, want %v", a, b, rank, impl.AlikeTo(a, b, rank), impl.AlikeTo(b, a, rank), want)
	}
}

// checkHall asks all that is asked of a Hall, by the rules.
func checkHall(t *testing.T, h impl.Hall) {
	t.Helper()
	right := hallByRule(h)
	if impl.HallOk(h) != right {
		t.Errorf("HallOk(%.200v) = %v, want %v", h, !right, right)
	}
	for _, rank := range ranksToTry() {
		want := viewByRule(h, rank)
		checkView(t, h, rank, want)
		checkAlike(t, h, h, rank, want != nil)
		for g := range int64(6) {
			for k := range int64(4) {
				checkItem(t, h, rank, g-1, k-1, itemIn(want, g-1, k-1))
			}
		}
	}
}

func hallOf(order string, gates []int64, slots [][]int64) impl.Hall {
	o, _ := impl.ReadOrder(order)
	return impl.Hall{Order: o, Gates: gates, Slots: slots}
}

const diamond = "1111/0101/0011/0001"

func diamondHall() impl.Hall {
	return hallOf(diamond, []int64{1, 0, 2, 3}, fourSlots())
}

// In views there is a text of slots for each rank.
type knownHall struct {
	name  string
	order string
	gates []int64
	slots string
	views string
}

func knownHalls() []knownHall {
	return []knownHall{
		{"one rank, one gate", "1", []int64{0}, "5", "5"},
		{"one rank, an empty slot", "1", []int64{0}, "-", "-"},
		{"two, rising", "11/01", []int64{0, 1}, "5/7 8", "5/-, 5/7 8"},
		{"two, falling", "10/11", []int64{0, 1}, "5/7 8", "5/7 8, -/7 8"},
		{"two, both above", "11/01", []int64{1, 1}, "5/7 8", "-/-, 5/7 8"},
		{"two, both below", "11/01", []int64{0, 0}, "5/7 8", "5/7 8, 5/7 8"},
		{"two, the high one empty", "11/01", []int64{0, 1}, "5/-", "5/-, 5/-"},
		{"two, the low one empty", "11/01", []int64{0, 1}, "-/5", "-/-, -/5"},
		{"a chain, 1 then 0 then 2", "101/111/001", []int64{2, 0, 1}, "1 2/-3/4", "-/-3/4, -/-/4, 1 2/-3/4"},
		{"a diamond", diamond, []int64{1, 0, 2, 3}, "1 1/2/-3/4 5",
			"-/2/-/-, 1 1/2/-/-, -/2/-3/-, 1 1/2/-3/4 5"},
		{"a diamond, its sides", diamond, []int64{2, 1}, "6/7", "-/-, -/7, 6/-, 6/7"},
		{"a diamond, one side twice", diamond, []int64{1, 2, 1}, "6/7/8", "-/-/-, 6/-/8, -/7/-, 6/7/8"},
		{"three side by side", "11111/01001/00101/00011/00001", []int64{3, 2, 1, 4}, "1/2/3/4",
			"-/-/-/-, -/-/3/-, -/2/-/-, 1/-/-/-, 1/2/3/4"},
		{"a chain of six", "111111/011111/001111/000111/000011/000001", []int64{5, 0, 3, 3}, "1/2/3/4",
			"-/2/-/-, -/2/-/-, -/2/-/-, -/2/3/4, -/2/3/4, 1/2/3/4"},
	}
}

// slotsIn reads a text of slots that is right, apart from the way the program
// goes.
func slotsIn(text string) [][]int64 {
	slots := [][]int64{}
	for _, words := range strings.Split(text, "/") {
		slot := []int64{}
		for _, word := range strings.Fields(strings.TrimSuffix(" "+words, " -")) {
			n, _ := strconv.ParseInt(word, 10, 64)
			slot = append(slot, n)
		}
		slots = append(slots, slot)
	}
	return slots
}

func TestKnownHalls(t *testing.T) {
	for _, k := range knownHalls() {
		h := hallOf(k.order, k.gates, slotsIn(k.slots))
		views := strings.Split(k.views, ", ")
		if len(views) != len(h.Order.Ups) || !impl.HallOk(h) {
			t.Errorf("%s: %d views, HallOk %v", k.name, len(views), impl.HallOk(h))
			continue
		}
		for rank, view := range views {
			checkView(t, h, int64(rank), slotsIn(view))
			if got := impl.ShowSlots(impl.ViewOf(h, int64(rank))); got != view {
				t.Errorf("%s: %d sees %q, want %q", k.name, rank, got, view)
			}
			// A Hall that has nothing but what the rank sees is alike to it.
			checkAlike(t, h, impl.Hall{Order: h.Order, Gates: h.Gates, Slots: slotsIn(view)}, int64(rank), true)
		}
		checkHall(t, h)
	}
}

// slotsToTell have unlike items everywhere; the slots in the set are empty.
func slotsToTell(count int, empty int64) [][]int64 {
	slots := [][]int64{}
	for g := range int64(count) {
		slot := []int64{}
		if !slices.Contains(membersByHalving(empty), g) {
			slot = append(slot, 10*g+11, -10*g-12, 10*g+13)[:g%3+1]
		}
		slots = append(slots, slot)
	}
	return slots
}

// Promise 10, its first half, by the rule and then as it is told: of each gate
// that the rank MaySee just the slot, of each other one nothing.
func checkNotSeen(t *testing.T, h impl.Hall) {
	t.Helper()
	for rank := range int64(len(h.Order.Ups)) {
		view, want := impl.ViewOf(h, rank), viewByRule(h, rank)
		checkView(t, h, rank, want)
		if len(view) != len(h.Slots) {
			t.Fatalf("ViewOf(%v, %d) has %d lists", h, rank, len(view))
		}
		for g, slot := range view {
			if may := impl.MaySee(h.Order, h.Gates, rank, int64(g)); may && !slices.Equal(slot, h.Slots[g]) || !may && len(slot) != 0 {
				t.Errorf("ViewOf(%v, %d) = %v; MaySee %d is %v", h, rank, view, g, may)
			}
			for k := range int64(4) {
				checkItem(t, h, rank, int64(g), k, itemIn(want, int64(g), k))
			}
		}
	}
}

// checkParting has two Halls part at each gate alone, and at all that a rank
// does not see.
func checkParting(t *testing.T, h impl.Hall) {
	t.Helper()
	in, n := inByRule(h.Order.Ups), int64(len(h.Order.Ups))
	for g, own := range h.Gates {
		other := impl.Hall{Order: h.Order, Gates: h.Gates, Slots: slotsCloned(h.Slots)}
		other.Slots[g] = append(other.Slots[g], 77)
		for rank := range n {
			checkAlike(t, h, other, rank, !in[own][rank])
		}
	}
	for from := range n {
		other := impl.Hall{Order: h.Order, Gates: h.Gates, Slots: slotsCloned(h.Slots)}
		for g, own := range h.Gates {
			if !in[own][from] {
				other.Slots[g] = []int64{77, int64(g)}
			}
		}
		for rank := range n {
			checkAlike(t, h, other, rank, alikeByRule(h, other, rank))
			if in[rank][from] {
				checkAlike(t, h, other, rank, true)
			}
		}
	}
}

// Promise 10 over every lattice of up to four ranks with every list of up to
// four gates, of four ranks with up to three.
func TestWhatIsNotBelowIsNotSeen(t *testing.T) {
	for n := 1; n <= 4; n++ {
		everyUps(n, func(ups []int64) {
			if !latticeByRule(ups) {
				return
			}
			everyGates(int64(n), min(4, 7-n), func(gates []int64) {
				h := impl.Hall{Order: impl.Order{Ups: ups}, Gates: gates, Slots: slotsToTell(len(gates), 0)}
				checkNotSeen(t, h)
				if len(gates) <= 2 {
					checkParting(t, h)
				}
			})
		})
	}
}

func TestWhatIsNotBelowOfUpToSixRanksIsNotSeen(t *testing.T) {
	for _, k := range knownLattices() {
		o, _ := impl.ReadOrder(k.order)
		everyGates(int64(len(o.Ups)), 3, func(gates []int64) {
			h := impl.Hall{Order: o, Gates: gates, Slots: slotsToTell(len(gates), 0)}
			checkNotSeen(t, h)
			if len(gates) <= 2 {
				checkParting(t, h)
			}
		})
	}
	for n := 5; n <= 6; n++ {
		everyRising(n, func(ups []int64) {
			if !latticeByRule(ups) {
				return
			}
			for _, gates := range [][]int64{{0, 1, 2, 3}, {4, int64(n) - 1, 2, 4}} {
				h := impl.Hall{Order: impl.Order{Ups: ups}, Gates: gates, Slots: slotsToTell(4, 0)}
				checkNotSeen(t, h)
				checkParting(t, h)
			}
		})
	}
}

func TestHallsWithEmptySlots(t *testing.T) {
	for _, k := range knownGateLists() {
		for empty := range int64(1) << len(k.gates) {
			h := hallOf(k.order, k.gates, slotsToTell(len(k.gates), empty))
			checkHall(t, h)
			checkNotSeen(t, h)
			checkParting(t, h)
		}
	}
}

// checkNoHall asks for the one answer of each function to what is no Hall.
func checkNoHall(t *testing.T, name string, h impl.Hall) {
	t.Helper()
	if impl.HallOk(h) || hallByRule(h) {
		t.Errorf("%s: HallOk(%.200v) = %v, by the rule %v", name, h, impl.HallOk(h), hallByRule(h))
	}
	for _, rank := range ranksToTry() {
		checkView(t, h, rank, nil)
		checkAlike(t, h, h, rank, false)
		checkAlike(t, h, diamondHall(), rank, false)
		for _, g := range []int64{math.MinInt64, -1, 0, 1, 3, 4, math.MaxInt64} {
			for _, k := range []int64{-1, 0, 1, 40} {
				checkItem(t, h, rank, g, k, 0)
			}
		}
	}
}

func TestTheZeroHallIsNotRight(t *testing.T) {
	checkNoHall(t, "the zero Hall", impl.Hall{})
	checkNoHall(t, "no order", impl.Hall{Gates: []int64{0}, Slots: [][]int64{{5}}})
	checkNoHall(t, "no gates", hallOf("1", nil, [][]int64{{5}}))
	checkNoHall(t, "no slots", hallOf("1", []int64{0}, nil))
	checkNoHall(t, "an order alone", hallOf("1", nil, nil))
}

func TestHallsOfWhatIsNoOrderOrNoLattice(t *testing.T) {
	for name, ups := range wrongUps() {
		for _, gates := range [][]int64{{0}, {0, 1}, {0, 0, 0, 0}} {
			checkNoHall(t, name, impl.Hall{Order: impl.Order{Ups: ups}, Gates: gates, Slots: slotsToTell(len(gates), 0)})
		}
	}
	for _, k := range knownNoLattices() {
		for _, gates := range [][]int64{{0}, {1, 0}, {0, 1, 1, 0}} {
			h := hallOf(k.order, gates, slotsToTell(len(gates), 0))
			if !impl.OrderOk(h.Order) {
				t.Fatalf("%s: no order", k.name)
			}
			checkNoHall(t, k.name, h)
		}
	}
}

func TestHallsOfWrongGates(t *testing.T) {
	for _, k := range knownLattices() {
		n := int64(len(strings.Split(k.order, "/")))
		for _, rank := range []int64{-1, n, n + 1, 6, 64, 1 << 32, -1 << 32, math.MinInt64, math.MaxInt64} {
			for count := 1; count <= 4; count++ {
				gates := make([]int64, count)
				gates[count-1] = rank
				checkNoHall(t, k.name, hallOf(k.order, gates, slotsToTell(count, 0)))
			}
		}
		for _, count := range []int{0, 5, 6, 100} {
			checkNoHall(t, k.name, hallOf(k.order, make([]int64, count), make([][]int64, count)))
			checkNoHall(t, k.name, hallOf(k.order, make([]int64, count), fourSlots()))
		}
	}
}

// Each two counts of gates and slots, so that one less and one more are there.
func TestAsManySlotsAsGates(t *testing.T) {
	for _, order := range []string{"1", "11/01", diamond} {
		for gates := range 6 {
			for slots := range 6 {
				h := hallOf(order, make([]int64, gates), slotsToTell(slots, 0))
				if gates == slots && gates >= 1 && gates <= 4 {
					checkHall(t, h)
				} else {
					checkNoHall(t, fmt.Sprintf("%d gates, %d slots", gates, slots), h)
				}
			}
		}
	}
}

func TestHallsOfWrongSlots(t *testing.T) {
	for name, slots := range noSlots() {
		count := min(len(slots), 4)
		// It is not right whether all see the slots or only the highest does.
		checkNoHall(t, name, hallOf(diamond, make([]int64, count), slots))
		checkNoHall(t, name, hallOf(diamond, slices.Repeat([]int64{3}, count), slots))
	}
}

func TestHallsAtTheLimitsOfSlots(t *testing.T) {
	for size := 38; size <= 42; size++ {
		for place := range 4 {
			for _, item := range []int64{0, -7, leastWord, greatestWord} {
				h := diamondHall()
				h.Slots[place] = slices.Repeat([]int64{item}, size)
				checkHall(t, h)
				if impl.HallOk(h) != (size <= 40) {
					t.Errorf("a slot of %d items: HallOk is %v", size, impl.HallOk(h))
				}
			}
		}
	}
	for _, item := range []int64{leastWord - 1, leastWord, leastWord + 1, greatestWord - 1, greatestWord, greatestWord + 1} {
		h := diamondHall()
		h.Slots[2] = []int64{1, item}
		checkHall(t, h)
		if impl.HallOk(h) != (item >= leastWord && item <= greatestWord) {
			t.Errorf("the item %d: HallOk is %v", item, impl.HallOk(h))
		}
	}
}

func TestRanksThatAreNotThereSeeNothing(t *testing.T) {
	for _, k := range knownHalls() {
		h := hallOf(k.order, k.gates, slotsIn(k.slots))
		for _, rank := range aroundLimits() {
			if rank >= 0 && rank < int64(len(h.Order.Ups)) {
				checkAlike(t, h, h, rank, true)
				continue
			}
			checkView(t, h, rank, nil)
			checkAlike(t, h, h, rank, false)
			for g := range h.Gates {
				checkItem(t, h, rank, int64(g), 0, 0)
			}
		}
	}
}

func TestItemsOfEachSlot(t *testing.T) {
	h := diamondHall()
	h.Slots[0] = slices.Repeat([]int64{5, -6}, 20)
	h.Slots[2] = []int64{leastWord, greatestWord}
	h.Slots[3] = nil
	for _, rank := range ranksToTry() {
		want := viewByRule(h, rank)
		for _, g := range placesToTry() {
			for _, k := range placesToTry() {
				checkItem(t, h, rank, g, k, itemIn(want, g, k))
			}
		}
	}
	checkItem(t, h, 1, 0, 39, -6)
	checkItem(t, h, 1, 0, 40, 0)
	checkItem(t, h, 2, 0, 39, 0)
	checkItem(t, h, 2, 2, 0, leastWord)
	checkItem(t, h, 2, 2, 1, greatestWord)
	checkItem(t, h, 1, 2, 1, 0)
	checkItem(t, h, 0, 1, 0, 110)
	checkItem(t, h, 3, 3, 0, 0)
	for _, n := range aroundLimits() {
		checkItem(t, h, 3, 0, n, itemIn(viewByRule(h, 3), 0, n))
		checkItem(t, h, 3, n, 0, itemIn(viewByRule(h, 3), n, 0))
		checkItem(t, h, n, 0, 0, itemIn(viewByRule(h, n), 0, 0))
	}
}

// Two Halls that part in the Order or in the Gates are alike to nobody, though
// each rank sees the same.
func TestHallsOfUnlikeOrdersOrGates(t *testing.T) {
	empty := make([][]int64, 2)
	halls := []impl.Hall{
		hallOf("1", []int64{0, 0}, empty),
		hallOf("11/01", []int64{0, 0}, empty),
		hallOf("11/01", []int64{0, 1}, empty),
		hallOf("11/01", []int64{1, 0}, empty),
		hallOf("11/01", []int64{1, 1}, empty),
		hallOf("10/11", []int64{0, 1}, empty),
		hallOf("111/011/001", []int64{0, 1}, empty),
		hallOf("111/010/011", []int64{0, 1}, empty),
		hallOf(diamond, []int64{0, 1}, empty),
		hallOf(diamond, []int64{0, 2}, empty),
		hallOf("1111/0111/0011/0001", []int64{0, 1}, empty),
		hallOf("1", []int64{0}, empty[:1]),
		hallOf("11/01", []int64{0}, empty[:1]),
		hallOf("11/01", []int64{0, 1, 1}, make([][]int64, 3)),
	}
	for a, one := range halls {
		for b, other := range halls {
			for _, rank := range ranksToTry() {
				there := rank >= 0 && rank < int64(len(one.Order.Ups))
				checkAlike(t, one, other, rank, a == b && there)
			}
		}
	}
}

func TestHallsThatPartInASlot(t *testing.T) {
	for _, k := range []struct {
		gate  int
		slot  []int64
		alike string // a sign for each rank
	}{
		{0, []int64{100, 101, 102}, "1111"},
		{0, []int64{100, 101}, "1010"},
		{0, []int64{100, 101, 103}, "1010"},
		{0, []int64{101, 100, 102}, "1010"},
		{0, []int64{100, 101, 102, 0}, "1010"},
		{0, nil, "1010"},
		{1, nil, "0000"},
		{1, []int64{-110}, "0000"},
		{2, nil, "1100"},
		{2, []int64{121, 120}, "1100"},
		{3, nil, "1110"},
		{3, []int64{130, 130}, "1110"},
	} {
		a, b := diamondHall(), diamondHall()
		b.Slots[k.gate] = k.slot
		for rank, sign := range k.alike {
			checkAlike(t, a, b, int64(rank), sign == '1')
		}
	}
	// An empty slot and nil are the same.
	a, b := diamondHall(), diamondHall()
	a.Slots[2], b.Slots[2] = nil, []int64{}
	checkAlike(t, a, b, 3, true)
}

// Of a Hall that is not right nobody is told that it is alike to another, though
// what is wrong is nothing that the rank sees.
func TestHallsOfWhichOneIsWrong(t *testing.T) {
	wrongs := []func(h *impl.Hall){
		func(h *impl.Hall) { h.Slots[3] = make([]int64, 41) },
		func(h *impl.Hall) { h.Slots[3] = []int64{greatestWord + 1} },
		func(h *impl.Hall) { h.Slots = h.Slots[:3] },
		func(h *impl.Hall) { h.Slots = append(h.Slots, nil) },
		func(h *impl.Hall) { h.Slots = nil },
		func(h *impl.Hall) { h.Gates = append(h.Gates, 3) },
		func(h *impl.Hall) { h.Gates[3] = 4 },
		func(h *impl.Hall) { h.Order.Ups[3] = 9 },
		func(h *impl.Hall) { h.Order.Ups = h.Order.Ups[:3] },
	}
	for _, change := range wrongs {
		a, b := diamondHall(), diamondHall()
		change(&b)
		checkNoHall(t, "changed", b)
		for _, rank := range ranksToTry() {
			checkAlike(t, a, b, rank, false)
		}
		change(&a)
		for _, rank := range ranksToTry() {
			checkAlike(t, a, b, rank, false)
		}
	}
}

var writtenAsSlot = regexp.MustCompile(`^(-|-?[0-9]+( -?[0-9]+){0,39})$`)

// readSlotsByRule asks the form of each slot first, and only then for words.
func readSlotsByRule(s string) ([][]int64, bool) {
	slots := [][]int64{}
	for _, text := range strings.Split(s, "/") {
		if !writtenAsSlot.MatchString(text) || len(slots) == 4 {
			return nil, false
		}
		slot := []int64{}
		for _, word := range strings.Fields(text) {
			n, is := readByRule(word)
			if !is && text != "-" {
				return nil, false
			}
			if is {
				slot = append(slot, n)
			}
		}
		slots = append(slots, slot)
	}
	return slots, true
}

func showSlotsByRule(slots [][]int64) string {
	if !slotsByRule(slots) {
		return ""
	}
	text := ""
	for g, slot := range slots {
		if g > 0 {
			text += "/"
		}
		if len(slot) == 0 {
			text += "-"
		}
		for k, item := range slot {
			if k > 0 {
				text += " "
			}
			text += fmt.Sprint(item)
		}
	}
	return text
}

func checkReadSlots(t *testing.T, s string, want [][]int64, right bool) {
	t.Helper()
	if got, is := impl.ReadSlots(s); !slotsAlike(got, want) || is != right {
		t.Errorf("ReadSlots(%.80q) of %d bytes = %.200v, %v, want %.200v, %v", s, len(s), got, is, want, right)
	}
}

func checkReadSlotsByRule(t *testing.T, s string) {
	t.Helper()
	want, right := readSlotsByRule(s)
	checkReadSlots(t, s, want, right)
	if right && impl.ShowSlots(want) != s {
		t.Errorf("ShowSlots(%.200v) = %.200q, want %.200q", want, impl.ShowSlots(want), s)
	}
}

// checkSlots is promise 10, its second half.
func checkSlots(t *testing.T, slots [][]int64) {
	t.Helper()
	text := impl.ShowSlots(slots)
	if want := showSlotsByRule(slots); text != want {
		t.Errorf("ShowSlots(%.200v) = %.200q, want %.200q", slots, text, want)
	}
	if slotsByRule(slots) {
		checkReadSlots(t, text, slots, true)
	}
}

func knownSlots() map[string][][]int64 {
	return map[string][][]int64{
		"5":                        {{5}},
		"-":                        {{}},
		"0":                        {{0}},
		"-1":                       {{-1}},
		"5 -6/-":                   {{5, -6}, {}},
		"-/-":                      {nil, {}},
		"-/-/-/-":                  {{}, {}, {}, {}},
		"-/5":                      {{}, {5}},
		"5/-/7":                    {{5}, {}, {7}},
		"-/1 2/-":                  {{}, {1, 2}, {}},
		"1/-/-/2":                  {{1}, nil, nil, {2}},
		"-/-/-/9":                  {{}, {}, {}, {9}},
		"9/-/-/-":                  {{9}, {}, {}, {}},
		"1 2 3/4/5 6/7":            {{1, 2, 3}, {4}, {5, 6}, {7}},
		"0 0 0/0":                  {{0, 0, 0}, {0}},
		"-2147483648 2147483647":   {{leastWord, greatestWord}},
		"2147483647/-2147483648/-": {{greatestWord}, {leastWord}, {}},
		"10 -10 100/-100 1000":     {{10, -10, 100}, {-100, 1000}},
	}
}

func TestKnownSlots(t *testing.T) {
	for text, slots := range knownSlots() {
		if got := impl.ShowSlots(slots); got != text {
			t.Errorf("ShowSlots(%v) = %q, want %q", slots, got, text)
		}
		checkReadSlots(t, text, slots, true)
		checkSlots(t, slots)
		checkReadSlotsByRule(t, text)
	}
	for _, slots := range someSlots() {
		checkSlots(t, slots)
	}
}

func TestWhatIsNoSlotsIsNotShown(t *testing.T) {
	for name, slots := range noSlots() {
		if got := impl.ShowSlots(slots); got != "" {
			t.Errorf("%s: ShowSlots is %.80q", name, got)
		}
	}
}

func TestSlotsOfEachWord(t *testing.T) {
	for _, n := range wordsToTry() {
		checkSlots(t, [][]int64{{n}})
		checkSlots(t, [][]int64{{}, {n, 1}, {1, n}, {}})
		checkReadSlots(t, strconv.FormatInt(n, 10)+"/-", [][]int64{{n}, {}}, true)
	}
	for _, n := range noWords() {
		word := strconv.FormatInt(n, 10)
		for _, text := range []string{word, word + "/-", "-/" + word, "1 " + word, word + " 1", "1/2/3/4 " + word} {
			checkReadSlots(t, text, nil, false)
		}
	}
}

func TestSlotsAtTheirLimits(t *testing.T) {
	for size := 38; size <= 42; size++ {
		for count := 1; count <= 6; count++ {
			for _, item := range []int64{0, -3, leastWord} {
				full, one := slices.Repeat([]int64{item}, size), []int64{item}
				for _, slots := range [][][]int64{slices.Repeat([][]int64{full}, count), append(slices.Repeat([][]int64{one}, count-1), full), append([][]int64{full}, make([][]int64, count-1)...)} {
					checkSlots(t, slots)
					words := strings.Repeat(" "+fmt.Sprint(item), size)[1:]
					right := size <= 40 && count <= 4
					if (impl.ShowSlots(slots) != "") != right || strings.Contains(impl.ShowSlots(slots), words) != right {
						t.Errorf("%d slots with %d items: ShowSlots is %.80q", count, size, impl.ShowSlots(slots))
					}
				}
				text := strings.Repeat("/"+strings.Repeat(" "+fmt.Sprint(item), size)[1:], count)[1:]
				checkReadSlotsByRule(t, text)
				if _, is := impl.ReadSlots(text); is != (size <= 40 && count <= 4) {
					t.Errorf("%d slots with %d items are read: %v", count, size, is)
				}
			}
		}
	}
}

func TestTextsThatAreNoSlots(t *testing.T) {
	texts := []string{
		"", " ", "  ", "/", "//", "///", "--", "- -", "-/", "/-", "-//-", "/-/", " -", "- ", "-  /-",
		"5 ", " 5", "5  6", "5 /-", "5/ -", "5/- ", "5 / 6", "5//6", "/5", "5/", "5/6/", "/5/6", "5 6 ", " 5 6",
		"5 -", "- 5", "-5 -", "- -5", "5 - 6", "-/5 -", "- 5/-", "--5", "5-", "5-6", "-5-", "5/--", "5/-6-",
		"-/-/-/-/-", "1/2/3/4/5", "1/2/3/4/", "/1/2/3/4", "1/2/3//4", "-/-/-/-/", "1/2/3/4//",
		"05", "00", "-0", "+5", "+0", "-05", "5 06", "5 -0", "5 +6", "0/00", "1/-0", "1/+1", "-00/-",
		"2147483648", "-2147483649", "1 2147483648", "-/4294967296", "18446744073709551616", "99999999999999999999",
		"5,6", "5;6", "5\t6", "5\n6", "5\n", "\n5", "5\r", "\x00", "5\x006", "5\x00", "a", "5a", "x/y", "0x5", "1e2", "1.0", "1_0",
		"5|6", "5\\6", "5:6", "[5]", "\u0665", "5\u00a06", "\u22125", "\xff", "5/\xff", "\uff0f5",
	}
	for _, text := range texts {
		checkReadSlots(t, text, nil, false)
		checkReadSlotsByRule(t, text)
	}
	for _, sign := range []string{"/", " ", "-", "5/", "5 ", "-/", "0", "5", "- ", "/ "} {
		for _, count := range []int{41, 42, 100, 100000} {
			many := strings.Repeat(sign, count)
			for _, text := range []string{many, many + "5", many + "-", "5/" + many, "5 " + many} {
				checkReadSlots(t, text, nil, false)
			}
		}
	}
}

func TestEveryShortTextAsSlots(t *testing.T) {
	var grow func(text string, most int, bytes string)
	grow = func(text string, most int, bytes string) {
		checkReadSlotsByRule(t, text)
		if len(text) < most && !t.Failed() {
			for _, b := range []byte(bytes) {
				grow(text+string([]byte{b}), most, bytes)
			}
		}
	}
	grow("", 6, "-05 /+")
	grow("", 10, "-/5")
	grow("1/2/3", 10, "-/ 5")
}

// Each known text with a byte less, another one, or one more at each place, and
// cut short there.
func TestSlotsOneByteAway(t *testing.T) {
	texts := []string{strings.Repeat(" 7", 40)[1:] + "/-"}
	for text := range knownSlots() {
		texts = append(texts, text)
	}
	for _, known := range texts {
		text := []byte(known)
		for at := range len(text) + 1 {
			checkReadSlotsByRule(t, known[:at])
			checkReadSlotsByRule(t, known[at:])
			for other := range 256 {
				b := byte(other)
				checkReadSlotsByRule(t, string(slices.Insert(slices.Clone(text), at, b)))
				if at < len(text) {
					checkReadSlotsByRule(t, string(slices.Replace(slices.Clone(text), at, at+1, b)))
				}
			}
			if at < len(text) {
				checkReadSlotsByRule(t, string(slices.Delete(slices.Clone(text), at, at+1)))
			}
		}
	}
}

func TestManyHallsAndSlots(t *testing.T) {
	m := newMaker(10)
	for range 20000 {
		h := m.hall()
		checkSlots(t, h.Slots)
		if impl.HallOk(h) != hallByRule(h) {
			t.Errorf("HallOk(%v) is %v", h, impl.HallOk(h))
		}
		other := impl.Hall{Order: h.Order, Gates: h.Gates, Slots: slotsCloned(h.Slots)}
		if count := len(other.Slots); count > 0 {
			other.Slots[m.Intn(count)] = m.words(0, 1, 2, 3, 40)
		}
		rank := m.number(0, 0, 1, 1, 2, 3, 4, 5, 6, -1)
		checkView(t, h, rank, viewByRule(h, rank))
		checkAlike(t, h, other, rank, alikeByRule(h, other, rank))
	}
}

// hallInRoom has room behind each list; all tells everything that is in it.
func hallInRoom(h impl.Hall) (room impl.Hall, all func() string) {
	ups, upsRoom := inRoom(h.Order.Ups, -99)
	gates, gateRoom := inRoom(h.Gates, -99)
	slots, slotRoom := inRoom(h.Slots, []int64{-99})
	itemRooms := [][]int64{}
	for g, slot := range h.Slots {
		items, itemRoom := inRoom(slot, -99)
		slots[g], itemRooms = items, append(itemRooms, itemRoom)
	}
	room = impl.Hall{Order: impl.Order{Ups: ups}, Gates: gates, Slots: slots}
	return room, func() string { return fmt.Sprint(room, upsRoom, gateRoom, slotRoom, itemRooms) }
}

func hallsToKeep() []impl.Hall {
	halls := []impl.Hall{{}, diamondHall(), hallOf("10/01", []int64{0, 1}, fourSlots()[:2]), hallOf("11/01", []int64{2}, fourSlots()[:1])}
	for _, k := range knownHalls() {
		halls = append(halls, hallOf(k.order, k.gates, slotsIn(k.slots)))
	}
	for _, slots := range noSlots() {
		if len(slots) <= 4 && len(slots) > 0 {
			halls = append(halls, hallOf("1", make([]int64, len(slots)), slots))
		}
	}
	return halls
}

func spoilSlots(slots [][]int64) {
	for _, slot := range slots {
		spoil(slot)
	}
	fill(slots, []int64{-77})
}

func TestHallsHandedInStay(t *testing.T) {
	for _, kept := range hallsToKeep() {
		h, all := hallInRoom(kept)
		before := all()
		for _, rank := range ranksToTry() {
			want := viewByRule(kept, rank)
			first, second := impl.ViewOf(h, rank), impl.ViewOf(h, rank)
			spoilSlots(first)
			third := impl.ViewOf(h, rank)
			if !slotsAlike(second, want) || !slotsAlike(third, want) {
				t.Errorf("ViewOf(%.200v, %d): other answers are %.200v and %.200v, want %.200v", kept, rank, second, third, want)
			}
			impl.AlikeTo(h, h, rank)
			impl.ItemAt(h, rank, 0, 0)
		}
		impl.HallOk(h)
		impl.ShowSlots(h.Slots)
		if after := all(); after != before {
			t.Errorf("what was handed in was %.300s and became %.300s", before, after)
		}
	}
}

// What was handed in may change behind an answer: that stays as it was.
func TestViewsStay(t *testing.T) {
	for _, kept := range hallsToKeep() {
		for rank := range int64(6) {
			h, _ := hallInRoom(kept)
			want := viewByRule(kept, rank)
			got := impl.ViewOf(h, rank)
			spoilSlots(h.Slots)
			spoil(h.Gates)
			spoil(h.Order.Ups)
			if !slotsAlike(got, want) {
				t.Errorf("ViewOf(%.200v, %d) became %.200v, want %.200v", kept, rank, got, want)
			}
		}
	}
}

// checkApart writes over one list of an answer, its spare room too, and asks
// for the others; answer makes it anew each time.
func checkApart(t *testing.T, answer func() [][]int64, want [][]int64) {
	t.Helper()
	if got := answer(); !slotsAlike(got, want) {
		t.Fatalf("the answer is %.200v, want %.200v", got, want)
	}
	for g := range want {
		got := answer()
		spoil(got[g])
		got[g] = want[g]
		if !slotsAlike(got, want) {
			t.Errorf("list %d spoilt, the others are %.200v, want %.200v", g, got, want)
		}
		got = answer()
		got[g] = append(got[g], -77)
		got[g] = want[g]
		if !slotsAlike(got, want) {
			t.Errorf("list %d grown, the others are %.200v, want %.200v", g, got, want)
		}
	}
}

func TestListsOfViewsAndSlotsShareNothing(t *testing.T) {
	for _, kept := range hallsToKeep() {
		for rank := range int64(len(kept.Order.Ups)) {
			h, _ := hallInRoom(kept)
			checkApart(t, func() [][]int64 { return impl.ViewOf(h, rank) }, viewByRule(kept, rank))
		}
	}
	// Nor where slots of one argument do.
	shared := []int64{3, 2, 1, 0}
	h := hallOf("11/01", []int64{0, 0, 1, 1}, [][]int64{shared, shared[:2], shared, shared[1:]})
	checkApart(t, func() [][]int64 { return impl.ViewOf(h, 1) }, [][]int64{{3, 2, 1, 0}, {3, 2}, {3, 2, 1, 0}, {2, 1, 0}})
	checkApart(t, func() [][]int64 { return impl.ViewOf(h, 0) }, [][]int64{{3, 2, 1, 0}, {3, 2}, {}, {}})
	if !slices.Equal(shared, []int64{3, 2, 1, 0}) {
		t.Errorf("what was shared became %v", shared)
	}
	for text, want := range knownSlots() {
		checkApart(t, func() [][]int64 {
			slots, _ := impl.ReadSlots(text)
			return slots
		}, want)
		first, _ := impl.ReadSlots(text)
		second, _ := impl.ReadSlots(text)
		spoilSlots(first)
		checkReadSlots(t, text, want, true)
		if !slotsAlike(second, want) {
			t.Errorf("ReadSlots(%q): another answer became %v, want %v", text, second, want)
		}
	}
}

func TestSpareRoomIsNoPartOfAHall(t *testing.T) {
	h := diamondHall()
	room := []int64{1, 2, 3, 4}
	h.Slots[0] = room[:2]
	checkView(t, h, 1, [][]int64{{1, 2}, {110}, {}, {}})
	checkItem(t, h, 1, 0, 2, 0)
	other := diamondHall()
	other.Slots[0] = []int64{1, 2}
	checkAlike(t, h, other, 3, true)
	if got := impl.ShowSlots(h.Slots[:1]); got != "1 2" {
		t.Errorf("with room behind the items and the slots ShowSlots is %q", got)
	}
	for count := range 4 {
		cut := impl.Hall{Order: h.Order, Gates: h.Gates, Slots: h.Slots[:count]}
		checkNoHall(t, "slots behind the end", cut)
		checkNoHall(t, "gates behind the end", impl.Hall{Order: h.Order, Gates: h.Gates[:count], Slots: h.Slots})
	}
	full := diamondHall()
	full.Slots[3] = make([]int64, 41)[:40]
	if !impl.HallOk(full) {
		t.Error("40 items with room behind them are refused")
	}
}

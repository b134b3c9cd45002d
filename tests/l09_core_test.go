package tests

import (
	"fmt"
	"math"
	"slices"
	"strconv"
	"strings"
	"testing"

	"loop.example/g00533/impl"
)

func TestNumbersOfThePlayer(t *testing.T) {
	codes := []int64{impl.CnRuns, impl.CnDone, impl.CnStop, impl.CnFail, impl.CnBad}
	if !slices.Equal(codes, []int64{0, 1, 2, 3, 4}) {
		t.Errorf("the Codes are %v", codes)
	}
	if impl.MaxPile != 60 || impl.MaxReads != 100000 || impl.MaxItems != 40 {
		t.Errorf("MaxPile, MaxReads and MaxItems are %d, %d and %d", impl.MaxPile, impl.MaxReads, impl.MaxItems)
	}
}

func isWord(n int64) bool { return leastWord <= n && n <= greatestWord }

func areWords(l []int64) bool {
	return !slices.ContainsFunc(l, func(n int64) bool { return !isWord(n) })
}

func boxesByRule(l []impl.Box) bool {
	rising := slices.IsSortedFunc(l, func(a, b impl.Box) int { return strings.Compare(a.Name, b.Name) })
	names := map[string]bool{}
	for _, box := range l {
		if !writtenAsName.MatchString(box.Name) || !isWord(box.Value) {
			return false
		}
		names[box.Name] = true
	}
	return rising && len(names) == len(l) && len(l) <= 12
}

func coreByRule(c impl.Core) bool {
	if c.At < 0 || c.At > 300 || len(c.Pile) > 60 || !areWords(c.Pile) || len(c.Reads) != 4 || c.Code < 0 || c.Code > 4 {
		return false
	}
	return slices.Min(c.Reads) >= 0 && slices.Max(c.Reads) <= 100000 && boxesByRule(c.Boxes)
}

func slotsByRule(slots [][]int64) bool {
	for _, slot := range slots {
		if len(slot) > 40 || !areWords(slot) {
			return false
		}
	}
	return len(slots) >= 1 && len(slots) <= 4
}

func codeIsByRule(code []impl.Op) bool {
	return len(code) <= 300 && !slices.ContainsFunc(code, func(o impl.Op) bool { return !opOkByRule(o) })
}

// badByRule is of a right Core that runs: it asks all that makes it bad ahead of
// anything that is done, apart from the way the program goes.
func badByRule(c impl.Core, code []impl.Op, slots [][]int64) bool {
	if !codeIsByRule(code) || !slotsByRule(slots) || c.At >= int64(len(code)) {
		return true
	}
	o := code[c.At]
	isThere := slices.ContainsFunc(c.Boxes, func(b impl.Box) bool { return b.Name == o.Name })
	noBox := len(c.Boxes) == 12 && !isThere
	switch o.Kind {
	case 1, 2:
		return len(c.Pile) == 60
	case 3:
		return len(c.Pile) < 2
	case 4:
		return len(c.Pile) < 1 || noBox
	case 5:
		return o.Number >= int64(len(slots)) || c.Reads[o.Number] == 100000 || noBox
	case 6:
		return len(c.Pile) < 1 || o.Number >= int64(len(slots))
	case 8:
		return len(c.Pile) < 1
	}
	return false
}

func valuesOf(boxes []impl.Box) map[string]int64 {
	values := map[string]int64{}
	for _, box := range boxes {
		values[box.Name] = box.Value
	}
	return values
}

func cloned(c impl.Core) impl.Core {
	c.Pile, c.Boxes, c.Reads = slices.Clone(c.Pile), slices.Clone(c.Boxes), slices.Clone(c.Reads)
	return c
}

// stepByRule lays the Pile out as what stays and the uppermost ones, and keeps
// the Boxes as a map, so that here, too, it goes another way.
func stepByRule(c impl.Core, code []impl.Op, slots [][]int64) impl.Step {
	if !coreByRule(c) {
		return impl.Step{Core: impl.Core{Code: 4}}
	}
	same, next, values := cloned(c), cloned(c), valuesOf(c.Boxes)
	if c.Code != 0 {
		return impl.Step{Core: same}
	}
	if badByRule(c, code, slots) {
		same.Code = 4
		return impl.Step{Core: same}
	}
	o, size, step := code[c.At], len(c.Pile), impl.Step{}
	next.At = c.At + 1
	switch o.Kind {
	case 1:
		next.Pile = slices.Concat(c.Pile, []int64{o.Number})
	case 2:
		next.Pile = slices.Concat(c.Pile, []int64{values[o.Name]})
	case 3:
		word, is := didByRule(o.Number, c.Pile[size-2], c.Pile[size-1])
		if !is {
			same.Code = 3
			return impl.Step{Core: same}
		}
		next.Pile = slices.Concat(c.Pile[:size-2], []int64{word})
	case 4:
		values[o.Name], next.Pile = c.Pile[size-1], slices.Clone(c.Pile[:size-1])
	case 5:
		values[o.Name] = 0
		if k := c.Reads[o.Number]; k < int64(len(slots[o.Number])) {
			values[o.Name] = slots[o.Number][k]
		}
		next.Reads[o.Number]++
	case 6:
		step = impl.Step{Says: true, Gate: o.Number, Value: c.Pile[size-1]}
		next.Pile = slices.Clone(c.Pile[:size-1])
	case 7:
		next.At = o.Number
	case 8:
		next.Pile = slices.Clone(c.Pile[:size-1])
		if c.Pile[size-1] == 0 {
			next.At = o.Number
		}
	case 9, 10:
		same.Code = map[int64]int64{9: 2, 10: 1}[o.Kind]
		return impl.Step{Core: same}
	}
	next.Boxes = boxesOf(values)
	step.Core = next
	return step
}

// coresAlike is told apart from SameCore.
func coresAlike(a impl.Core, b impl.Core) bool {
	return a.At == b.At && a.Code == b.Code && slices.Equal(a.Pile, b.Pile) && slices.Equal(a.Boxes, b.Boxes) && slices.Equal(a.Reads, b.Reads)
}

func stepsAlike(a impl.Step, b impl.Step) bool {
	return coresAlike(a.Core, b.Core) && a.Says == b.Says && a.Gate == b.Gate && a.Value == b.Value
}

// checkStep holds what is answered against what is wanted and against the first
// half of promise 9.
func checkStep(t *testing.T, c impl.Core, code []impl.Op, slots [][]int64, want impl.Step) {
	t.Helper()
	got := impl.Stepped(c, code, slots)
	if !stepsAlike(got, want) {
		t.Errorf("Stepped(%v, %d Ops %.120v, %.120v) = %v, want %v", c, len(code), code, slots, got, want)
	}
	if right := coreByRule(c); impl.CoreOk(got.Core) != right || impl.CoreOk(c) != right {
		t.Errorf("CoreOk(%v) = %v and of %v, which it is Stepped to, %v; want %v", c, impl.CoreOk(c), got.Core, impl.CoreOk(got.Core), right)
	}
}

func checkStepByRule(t *testing.T, c impl.Core, code []impl.Op, slots [][]int64) {
	t.Helper()
	checkStep(t, c, code, slots, stepByRule(c, code, slots))
}

func withCode(c impl.Core, code int64) impl.Core {
	c.Code = code
	return c
}

func checkEndsWith(t *testing.T, c impl.Core, code []impl.Op, slots [][]int64, want int64) {
	t.Helper()
	checkStep(t, c, code, slots, impl.Step{Core: withCode(c, want)})
}

// midCore is in the midst of something, so that each part of it could change.
func midCore() impl.Core {
	return impl.Core{
		At:    2,
		Pile:  []int64{11, -7, 3},
		Boxes: []impl.Box{{Name: "b", Value: 20}, {Name: "m", Value: -9}, {Name: "x", Value: 5}},
		Reads: []int64{1, 0, 2, 99},
	}
}

func fourSlots() [][]int64 { return [][]int64{{100, 101, 102}, {110}, {120, 121}, {130}} }

// codeAt has the Op at that place, one behind it, and other ones ahead.
func codeAt(at int64, o impl.Op) []impl.Op {
	return slices.Concat(slices.Repeat([]impl.Op{stop()}, int(at)), []impl.Op{o, end()})
}

func TestNewCore(t *testing.T) {
	got := impl.NewCore()
	if !coresAlike(got, impl.Core{Reads: []int64{0, 0, 0, 0}}) || !impl.CoreOk(got) {
		t.Errorf("NewCore() = %v, CoreOk of it %v", got, impl.CoreOk(got))
	}
	spoil(got.Reads[:cap(got.Reads)])
	if again := impl.NewCore(); !coresAlike(again, impl.Core{Reads: []int64{0, 0, 0, 0}}) {
		t.Errorf("another NewCore() = %v", again)
	}
}

func checkCore(t *testing.T, c impl.Core, want bool) {
	t.Helper()
	if got := impl.CoreOk(c); got != want {
		t.Errorf("CoreOk(%v) = %v, want %v", c, got, want)
	}
	if coreByRule(c) != want {
		t.Errorf("%v: the rule tells %v, want %v", c, !want, want)
	}
}

func TestTheZeroCoreIsNotRight(t *testing.T) {
	checkCore(t, impl.Core{}, false)
	checkCore(t, impl.Core{Code: impl.CnBad}, false)
	checkCore(t, impl.Core{Reads: []int64{0, 0, 0, 0}}, true)
	checkCore(t, midCore(), true)
}

func TestPlacesOfCores(t *testing.T) {
	c := midCore()
	for _, at := range []int64{0, 1, 2, 150, 255, 256, 298, 299, 300} {
		c.At = at
		checkCore(t, c, true)
	}
	for _, at := range append(aroundLimits(), 301, 302, 400, 511, 512, -300, -301, 1<<32+300, -1<<32+300, math.MaxInt64-300, math.MinInt64+300) {
		c.At = at
		checkCore(t, c, at >= 0 && at <= 300)
	}
}

func TestCodesOfCores(t *testing.T) {
	for code := int64(0); code <= 4; code++ {
		checkCore(t, withCode(midCore(), code), true)
		checkCore(t, withCode(impl.NewCore(), code), true)
	}
	for _, code := range append(aroundLimits(), kindsToTry()...) {
		checkCore(t, withCode(midCore(), code), code >= 0 && code <= 4)
	}
}

func TestPilesOfCores(t *testing.T) {
	c := midCore()
	for _, size := range []int{0, 1, 2, 58, 59, 60, 61, 62, 120, 256, 316, 10000} {
		c.Pile = slices.Repeat([]int64{7}, size)
		checkCore(t, c, size <= 60)
	}
	c.Pile = nil
	checkCore(t, c, true)
	for _, size := range []int{1, 2, 3, 60} {
		for place := range size {
			for _, n := range []int64{leastWord, greatestWord, leastWord + 1, greatestWord - 1, 0} {
				c.Pile = slices.Repeat([]int64{7}, size)
				c.Pile[place] = n
				checkCore(t, c, true)
			}
			for _, n := range noWords() {
				c.Pile = slices.Repeat([]int64{7}, size)
				c.Pile[place] = n
				checkCore(t, c, false)
			}
		}
	}
}

func TestBoxesOfCores(t *testing.T) {
	c := midCore()
	for _, boxes := range rightBoxes() {
		c.Boxes = boxes
		checkCore(t, c, true)
	}
	for _, boxes := range wrongBoxes() {
		c.Boxes = boxes
		checkCore(t, c, false)
	}
}

func TestReadsOfCores(t *testing.T) {
	c := midCore()
	for size := range 12 {
		c.Reads = make([]int64, size)
		checkCore(t, c, size == 4)
	}
	c.Reads = nil
	checkCore(t, c, false)
	wrong := []int64{-1, -2, -100000, 100001, 100002, 200000, 1 << 17, 1 << 32, 1<<32 + 5, -1 << 32, math.MinInt64, math.MinInt64 + 1, math.MaxInt64, math.MaxInt64 - 1}
	for gate := range 4 {
		for _, n := range []int64{0, 1, 40, 41, 300, 65536, 99999, 100000} {
			c.Reads = []int64{5, 5, 5, 5}
			c.Reads[gate] = n
			checkCore(t, c, true)
		}
		for _, n := range wrong {
			c.Reads = []int64{5, 5, 5, 5}
			c.Reads[gate] = n
			checkCore(t, c, false)
		}
	}
	c.Reads = []int64{100000, 100000, 100000, 100000}
	checkCore(t, c, true)
}

type knownStep struct {
	op     impl.Op
	change func(c *impl.Core)
	step   impl.Step // what it Says
}

// quiet is a step that Says nothing.
func quiet(o impl.Op, change func(c *impl.Core)) knownStep { return knownStep{op: o, change: change} }

// knownSteps are from midCore with fourSlots.
func knownSteps() []knownStep {
	pile := func(l ...int64) func(c *impl.Core) {
		return func(c *impl.Core) { c.At, c.Pile = 3, l }
	}
	boxed := func(boxes ...impl.Box) func(c *impl.Core) {
		return func(c *impl.Core) { c.At, c.Pile, c.Boxes = 3, []int64{11, -7}, boxes }
	}
	read := func(reads []int64, boxes ...impl.Box) func(c *impl.Core) {
		return func(c *impl.Core) { c.At, c.Reads, c.Boxes = 3, reads, boxes }
	}
	says := func(gate int64) knownStep {
		return knownStep{out(gate), pile(11, -7), impl.Step{Says: true, Gate: gate, Value: 3}}
	}
	goes := func(at int64) func(c *impl.Core) { return func(c *impl.Core) { c.At = at } }
	codes := func(code int64) func(c *impl.Core) { return func(c *impl.Core) { c.Code = code } }
	b, m, x := impl.Box{Name: "b", Value: 20}, impl.Box{Name: "m", Value: -9}, impl.Box{Name: "x", Value: 5}
	box := func(name string, value int64) impl.Box { return impl.Box{Name: name, Value: value} }
	return []knownStep{
		quiet(push(4), pile(11, -7, 3, 4)), quiet(push(0), pile(11, -7, 3, 0)), quiet(push(leastWord), pile(11, -7, 3, leastWord)), quiet(push(greatestWord), pile(11, -7, 3, greatestWord)),
		quiet(load("b"), pile(11, -7, 3, 20)), quiet(load("m"), pile(11, -7, 3, -9)), quiet(load("x"), pile(11, -7, 3, 5)),
		quiet(load("a"), pile(11, -7, 3, 0)), quiet(load("bb"), pile(11, -7, 3, 0)), quiet(load("c"), pile(11, -7, 3, 0)), quiet(load("zzzzzz"), pile(11, -7, 3, 0)),
		quiet(do(1), pile(11, -4)), quiet(do(2), pile(11, -10)), quiet(do(3), pile(11, -21)), quiet(do(4), pile(11, -2)), quiet(do(5), pile(11, 1)), quiet(do(6), pile(11, 0)),
		quiet(set("b"), boxed(box("b", 3), m, x)), quiet(set("m"), boxed(b, box("m", 3), x)), quiet(set("x"), boxed(b, m, box("x", 3))),
		quiet(set("a"), boxed(box("a", 3), b, m, x)), quiet(set("bb"), boxed(b, box("bb", 3), m, x)), quiet(set("n"), boxed(b, m, box("n", 3), x)), quiet(set("xx"), boxed(b, m, x, box("xx", 3))),
		quiet(in("m", 0), read([]int64{2, 0, 2, 99}, b, box("m", 101), x)), quiet(in("a", 0), read([]int64{2, 0, 2, 99}, box("a", 101), b, m, x)),
		quiet(in("x", 1), read([]int64{1, 1, 2, 99}, b, m, box("x", 110))), quiet(in("z", 1), read([]int64{1, 1, 2, 99}, b, m, x, box("z", 110))),
		quiet(in("b", 2), read([]int64{1, 0, 3, 99}, box("b", 0), m, x)), quiet(in("c", 2), read([]int64{1, 0, 3, 99}, b, box("c", 0), m, x)),
		quiet(in("m", 3), read([]int64{1, 0, 2, 100}, b, box("m", 0), x)), quiet(in("w", 3), read([]int64{1, 0, 2, 100}, b, m, box("w", 0), x)),
		says(0), says(1), says(2), says(3),
		quiet(goTo(0), goes(0)), quiet(goTo(1), goes(1)), quiet(goTo(2), goes(2)), quiet(goTo(3), goes(3)), quiet(goTo(4), goes(4)), quiet(goTo(299), goes(299)), quiet(goTo(300), goes(300)),
		quiet(unless(0), pile(11, -7)), quiet(unless(2), pile(11, -7)), quiet(unless(300), pile(11, -7)),
		quiet(stop(), codes(2)), quiet(end(), codes(1)),
	}
}

func TestKnownSteps(t *testing.T) {
	for _, k := range knownSteps() {
		want := k.step
		want.Core = midCore()
		k.change(&want.Core)
		checkStep(t, midCore(), codeAt(2, k.op), fourSlots(), want)
		if byRule := stepByRule(midCore(), codeAt(2, k.op), fourSlots()); !stepsAlike(byRule, want) {
			t.Errorf("%v: the rule tells %v, want %v", k.op, byRule, want)
		}
	}
}

// Only the Op at At is done, whatever stands around it.
func TestTheOpAtAtIsDone(t *testing.T) {
	for _, ahead := range knownSteps() {
		for _, k := range knownSteps() {
			for _, behind := range []impl.Op{end(), push(77), goTo(0), ahead.op} {
				code := []impl.Op{ahead.op, behind, k.op, behind}
				for at := range int64(5) {
					c := midCore()
					c.At = at
					checkStepByRule(t, c, code, fourSlots())
				}
			}
		}
	}
}

// Each op with each two words, above others that stay.
func TestDoOfEachTwoWords(t *testing.T) {
	for op := int64(1); op <= 6; op++ {
		for _, lower := range wordsToTry() {
			for _, upper := range wordsToTry() {
				c := midCore()
				c.Pile = []int64{9, -4, lower, upper}
				want := impl.Step{Core: midCore()}
				word, is := didByRule(op, lower, upper)
				want.Core.At, want.Core.Pile = 3, []int64{9, -4, word}
				if !is {
					want.Core = withCode(c, impl.CnFail)
				}
				checkStep(t, c, codeAt(2, do(op)), fourSlots(), want)
			}
		}
	}
}

func TestByNoughtFails(t *testing.T) {
	for _, lower := range wordsToTry() {
		for _, ahead := range [][]int64{nil, {5}, {0, 0}, slices.Repeat([]int64{1}, 58)} {
			c := midCore()
			c.Pile = slices.Concat(ahead, []int64{lower, 0})
			checkEndsWith(t, c, codeAt(2, do(4)), fourSlots(), impl.CnFail)
		}
	}
	// It is the upper one by which the lower one is taken.
	c := midCore()
	c.Pile = []int64{0, 8}
	want := midCore()
	want.At, want.Pile = 3, []int64{0}
	checkStep(t, c, codeAt(2, do(4)), fourSlots(), impl.Step{Core: want})
}

func TestSetOfABoxInEachPlace(t *testing.T) {
	names := letters(12)
	for count := range 12 {
		for _, name := range append(slices.Clone(names), "aa", "cz", "zz", "zzzzzz") {
			for _, word := range []int64{0, 1, leastWord, greatestWord} {
				c := midCore()
				c.Boxes, c.Pile = manyBoxes(count), []int64{6, word}
				values := valuesOf(c.Boxes)
				values[name] = word
				want := cloned(c)
				want.At, want.Pile, want.Boxes = 3, []int64{6}, boxesOf(values)
				checkStep(t, c, codeAt(2, set(name)), fourSlots(), impl.Step{Core: want})
			}
		}
	}
}

// Each item of a slot of each size, and none behind the last one.
func TestInOfEachItem(t *testing.T) {
	for gate := range int64(4) {
		for _, size := range []int64{0, 1, 2, 39, 40} {
			slots := [][]int64{{1}, {2}, {3}, {4}}
			slots[gate] = nil
			for k := range size {
				slots[gate] = append(slots[gate], 1000*(gate+1)+k)
			}
			for _, reads := range []int64{0, 1, 2, 3, 38, 39, 40, 41, 42, 300, 99998, 99999} {
				c, want := midCore(), midCore()
				c.Reads[gate], want.Reads[gate] = reads, reads+1
				want.At, want.Boxes[1].Value = 3, 0
				if reads < size {
					want.Boxes[1].Value = 1000*(gate+1) + reads
				}
				checkStep(t, c, codeAt(2, in("m", gate)), slots, impl.Step{Core: want})
			}
		}
	}
	// Items at the ends of words.
	c, want := impl.NewCore(), impl.NewCore()
	slots := [][]int64{{leastWord, greatestWord}}
	want.At, want.Boxes, want.Reads = 1, []impl.Box{{Name: "q", Value: leastWord}}, []int64{1, 0, 0, 0}
	checkStep(t, c, codeAt(0, in("q", 0)), slots, impl.Step{Core: want})
	c.Reads, want.Reads, want.Boxes = []int64{1, 0, 0, 0}, []int64{2, 0, 0, 0}, []impl.Box{{Name: "q", Value: greatestWord}}
	checkStep(t, c, codeAt(0, in("q", 0)), slots, impl.Step{Core: want})
}

func TestInOfASlotThatIsNotThere(t *testing.T) {
	for count := 1; count <= 4; count++ {
		for gate := range int64(4) {
			for _, name := range []string{"m", "new"} {
				code := codeAt(2, in(name, gate))
				if gate < int64(count) {
					checkStepByRule(t, midCore(), code, fourSlots()[:count])
					if got := impl.Stepped(midCore(), code, fourSlots()[:count]); got.Core.Code != impl.CnRuns {
						t.Errorf("gate %d of %d: %v", gate, count, got)
					}
				} else {
					checkEndsWith(t, midCore(), code, fourSlots()[:count], impl.CnBad)
				}
			}
		}
	}
}

// Where a gate has no slot, it has no window either. A slot without items is
// one.
func TestOutAtEachGate(t *testing.T) {
	for count := 1; count <= 4; count++ {
		for gate := range int64(4) {
			for _, word := range []int64{0, 1, -1, 12, leastWord, greatestWord} {
				for _, below := range [][]int64{nil, {4}, {4, -5}, slices.Repeat([]int64{2}, 59)} {
					c, want := midCore(), midCore()
					c.Pile = slices.Concat(below, []int64{word})
					want.At, want.Pile = 3, below
					for _, slots := range [][][]int64{fourSlots()[:count], make([][]int64, count)} {
						if gate < int64(count) {
							checkStep(t, c, codeAt(2, out(gate)), slots, impl.Step{Core: want, Says: true, Gate: gate, Value: word})
						} else {
							checkEndsWith(t, c, codeAt(2, out(gate)), slots, impl.CnBad)
						}
					}
				}
			}
		}
	}
}

// Slots that lie in the room behind those that are handed in are not there.
func TestGatesWhoseSlotsAreSpare(t *testing.T) {
	for count := 1; count <= 3; count++ {
		for _, gate := range []int64{int64(count), 3} {
			for _, o := range []impl.Op{in("m", gate), out(gate)} {
				checkEndsWith(t, midCore(), codeAt(2, o), fourSlots()[:count:4], impl.CnBad)
			}
		}
	}
}

// A gate whose slot is not there is as bad where something else is bad, too.
func TestNoSlotAndSomethingElse(t *testing.T) {
	full := midCore()
	full.Pile, full.Boxes, full.Reads = slices.Repeat([]int64{8}, 60), manyBoxes(12), []int64{100000, 100000, 100000, 100000}
	nothing := impl.NewCore()
	nothing.At = 2
	for count := 1; count <= 3; count++ {
		for gate := int64(count); gate <= 3; gate++ {
			for _, o := range []impl.Op{in("new", gate), out(gate)} {
				checkEndsWith(t, full, codeAt(2, o), fourSlots()[:count], impl.CnBad)
				checkEndsWith(t, nothing, codeAt(2, o), fourSlots()[:count], impl.CnBad)
				checkEndsWith(t, full, append(codeAt(2, o), impl.Op{}), fourSlots()[:count], impl.CnBad)
			}
		}
	}
}

// Only the step that names the gate is bad: a play of a gate that is not there
// goes on until it comes there.
func TestPlaysOfGatesThatAreNotThere(t *testing.T) {
	for _, k := range []struct {
		play  string
		slots [][]int64
		ticks int64
		pile  []int64
		code  int64
	}{
		{"out 2 1", [][]int64{{5, 3}}, 1, []int64{1}, impl.CnBad},
		{"out 1 5", [][]int64{{}}, 1, []int64{5}, impl.CnBad},
		{"out 0 5 out 1 6", [][]int64{{}}, 3, []int64{6}, impl.CnBad},
		{"in x 3", fourSlots()[:3], 0, nil, impl.CnBad},
		{"if 0 [ out 3 1 ] [ stop ]", [][]int64{{}}, 2, nil, impl.CnStop},
		{"stop out 3 1", [][]int64{{}}, 0, nil, impl.CnStop},
		{"out 3 / 1 0", [][]int64{{}}, 2, []int64{1, 0}, impl.CnFail},
	} {
		c, code, ticks := impl.NewCore(), impl.CodeOf(strings.Fields(k.play)), int64(-1)
		for c.Code == impl.CnRuns && ticks < 100 {
			ticks++
			checkStepByRule(t, c, code, k.slots)
			c = impl.Stepped(c, code, k.slots).Core
		}
		if ticks != k.ticks || c.Code != k.code || !slices.Equal(c.Pile, k.pile) {
			t.Errorf("%s: in tick %d it is %v, want %d, the Pile %v and Code %d", k.play, ticks, c, k.ticks, k.pile, k.code)
		}
	}
}

func TestGoAndUnlessToEachPlace(t *testing.T) {
	for place := range int64(301) {
		want := midCore()
		want.At = place
		checkStep(t, midCore(), codeAt(2, goTo(place)), fourSlots(), impl.Step{Core: want})
		for _, word := range []int64{0, 1, -1, leastWord, greatestWord, 256, 1 << 16} {
			c, want := midCore(), midCore()
			c.Pile = []int64{5, 0, word}
			want.Pile, want.At = []int64{5, 0}, 3
			if word == 0 {
				want.At = place
			}
			checkStep(t, c, codeAt(2, unless(place)), fourSlots(), impl.Step{Core: want})
		}
	}
}

func TestStopAndEnd(t *testing.T) {
	for _, at := range []int64{0, 1, 2, 298, 299} {
		for _, size := range []int{0, 1, 60} {
			for _, boxes := range rightBoxes() {
				c := midCore()
				c.At, c.Pile, c.Boxes = at, slices.Repeat([]int64{4}, size), boxes
				code := slices.Repeat([]impl.Op{push(1)}, int(at))
				checkEndsWith(t, c, append(slices.Clone(code), stop()), fourSlots(), impl.CnStop)
				checkEndsWith(t, c, append(slices.Clone(code), end()), fourSlots(), impl.CnDone)
			}
		}
	}
}

// someCodes are codes that are right, with Ops of each kind.
func someCodes() [][]impl.Op {
	codes := [][]impl.Op{nil, {}, oneOfEachKind(), slices.Repeat([]impl.Op{push(1)}, 300)}
	for _, k := range knownSteps() {
		codes = append(codes, codeAt(2, k.op))
	}
	return codes
}

func noCodes() [][]impl.Op {
	codes := [][]impl.Op{
		slices.Repeat([]impl.Op{end()}, 301), slices.Repeat([]impl.Op{push(1)}, 302), slices.Repeat([]impl.Op{stop()}, 20000), {{}},
	}
	for _, wrong := range wrongOps() {
		codes = append(codes, codeAt(2, wrong), append(codeAt(2, end()), wrong), append([]impl.Op{wrong}, codeAt(2, push(1))...))
		codes = append(codes, append(slices.Repeat([]impl.Op{stop()}, 299), wrong))
	}
	return codes
}

func noSlots() map[string][][]int64 {
	wrong := map[string][][]int64{
		"nil":            nil,
		"none":           {},
		"five":           {{}, {}, {}, {}, {}},
		"a hundred":      make([][]int64, 100),
		"41 items":       {make([]int64, 41)},
		"40 items and 1": {make([]int64, 40), make([]int64, 41), {}, {}},
		"41 in the last": {{}, {}, {}, make([]int64, 41)},
		"many items":     {{}, make([]int64, 100000)},
	}
	for _, n := range noWords() {
		wrong["the item "+strconv.FormatInt(n, 10)] = [][]int64{{n}}
		wrong["the last one "+strconv.FormatInt(n, 10)] = [][]int64{{1, 2}, {}, {3}, {4, 5, n}}
		wrong["one between "+strconv.FormatInt(n, 10)] = [][]int64{{1, 2}, {3, n, 4}, {5}}
	}
	return wrong
}

func someSlots() [][][]int64 {
	return [][][]int64{
		{{}}, {nil}, {{}, {}}, {{}, nil, {}, {}}, {{7}}, fourSlots(), {{leastWord, greatestWord}, {0}}, {make([]int64, 40), make([]int64, 40), make([]int64, 40), make([]int64, 40)},
	}
}

func TestWhatDoesNotRunStays(t *testing.T) {
	for code := int64(1); code <= 4; code++ {
		for _, at := range []int64{0, 2, 3, 4, 299, 300} {
			c, other := withCode(midCore(), code), withCode(impl.NewCore(), code)
			c.At, other.At = at, at
			for _, ops := range slices.Concat(someCodes(), noCodes()) {
				checkEndsWith(t, c, ops, fourSlots(), code)
				checkEndsWith(t, other, ops, nil, code)
			}
			for _, slots := range noSlots() {
				checkEndsWith(t, c, codeAt(2, push(1)), slots, code)
				checkEndsWith(t, other, codeAt(2, wrongOps()[0]), slots, code)
			}
		}
	}
}

func TestNoOpAtAt(t *testing.T) {
	for _, size := range []int{0, 1, 2, 3, 4, 298, 299, 300} {
		for _, o := range oneOfEachKind() {
			code := slices.Repeat([]impl.Op{o}, size)
			for at := range int64(301) {
				c := midCore()
				c.At = at
				if at >= int64(size) {
					checkEndsWith(t, c, code, fourSlots(), impl.CnBad)
				} else {
					checkStepByRule(t, c, code, fourSlots())
				}
			}
		}
	}
	// At the last one there may be, the place behind is still a place.
	c, want := midCore(), midCore()
	c.At, want.At, want.Pile = 299, 300, []int64{11, -7, 3, 1}
	checkStep(t, c, slices.Repeat([]impl.Op{push(1)}, 300), fourSlots(), impl.Step{Core: want})
	checkEndsWith(t, want, slices.Repeat([]impl.Op{push(1)}, 300), fourSlots(), impl.CnBad)
	checkEndsWith(t, impl.NewCore(), nil, fourSlots(), impl.CnBad)
	// What lies behind a code, in its spare room, is none of it.
	spare := codeAt(2, push(1))
	checkEndsWith(t, midCore(), spare[:2], fourSlots(), impl.CnBad)
}

func TestTooLittleLiesThere(t *testing.T) {
	takes := map[int64]int{3: 2, 4: 1, 6: 1, 8: 1}
	for _, k := range append(knownSteps(), quiet(unless(7), nil), quiet(do(4), nil)) {
		for size := range 4 {
			c := midCore()
			c.Pile = []int64{11, -7, 3}[:size:size]
			if size < takes[k.op.Kind] {
				checkEndsWith(t, c, codeAt(2, k.op), fourSlots(), impl.CnBad)
				c.Pile = make([]int64, size)
				checkEndsWith(t, c, codeAt(2, k.op), fourSlots(), impl.CnBad)
			} else {
				checkStepByRule(t, c, codeAt(2, k.op), fourSlots())
				if got := impl.Stepped(c, codeAt(2, k.op), fourSlots()); got.Core.Code > impl.CnStop {
					t.Errorf("%v with %d words is Stepped to %v", k.op, size, got)
				}
			}
		}
	}
}

func TestPilesAtTheLimit(t *testing.T) {
	for _, o := range []impl.Op{push(5), load("m"), load("none")} {
		for size := 57; size <= 60; size++ {
			c := midCore()
			c.Pile = slices.Repeat([]int64{8}, size)
			if size == 60 {
				checkEndsWith(t, c, codeAt(2, o), fourSlots(), impl.CnBad)
				continue
			}
			got := impl.Stepped(c, codeAt(2, o), fourSlots())
			if len(got.Core.Pile) != size+1 || got.Core.Code != impl.CnRuns {
				t.Errorf("%v on %d words: %v", o, size, got)
			}
			checkStepByRule(t, c, codeAt(2, o), fourSlots())
		}
	}
	// A full Pile is in nothing else's way.
	for _, k := range knownSteps() {
		c := midCore()
		c.Pile = slices.Repeat([]int64{8}, 60)
		if k.op.Kind > 2 {
			checkStepByRule(t, c, codeAt(2, k.op), fourSlots())
			if got := impl.Stepped(c, codeAt(2, k.op), fourSlots()); got.Core.Code == impl.CnBad {
				t.Errorf("%v on a full Pile: %v", k.op, got)
			}
		}
	}
}

func TestBoxesAtTheLimit(t *testing.T) {
	for _, name := range []string{"aa", "ab", "fz", "lz", "m", "z", "zzzzzz"} {
		for _, o := range []impl.Op{set(name), in(name, 0), in(name, 3)} {
			c := midCore()
			c.Boxes = manyBoxes(12)
			checkEndsWith(t, c, codeAt(2, o), fourSlots(), impl.CnBad)
			c.Boxes = manyBoxes(11)
			got := impl.Stepped(c, codeAt(2, o), fourSlots())
			if len(got.Core.Boxes) != 12 || got.Core.Code != impl.CnRuns {
				t.Errorf("%v with eleven Boxes: %v", o, got)
			}
			checkStepByRule(t, c, codeAt(2, o), fourSlots())
		}
	}
	for _, name := range letters(12) {
		for _, o := range []impl.Op{set(name), in(name, 0), in(name, 3), load(name)} {
			c := midCore()
			c.Boxes = manyBoxes(12)
			checkStepByRule(t, c, codeAt(2, o), fourSlots())
			if got := impl.Stepped(c, codeAt(2, o), fourSlots()); got.Core.Code != impl.CnRuns || len(got.Core.Boxes) != 12 {
				t.Errorf("%v with twelve Boxes: %v", o, got)
			}
		}
	}
	c := midCore()
	c.Boxes = manyBoxes(12)
	checkStepByRule(t, c, codeAt(2, load("none")), fourSlots())
}

func TestReadsAtTheLimit(t *testing.T) {
	for gate := range int64(4) {
		for _, name := range []string{"m", "new"} {
			c := midCore()
			c.Reads[gate] = 100000
			checkEndsWith(t, c, codeAt(2, in(name, gate)), fourSlots(), impl.CnBad)
			c.Reads[gate] = 99999
			got := impl.Stepped(c, codeAt(2, in(name, gate)), fourSlots())
			if got.Core.Reads[gate] != 100000 || got.Core.Code != impl.CnRuns {
				t.Errorf("gate %d: %v", gate, got)
			}
			checkStepByRule(t, c, codeAt(2, in(name, gate)), fourSlots())
			// Those of other gates are in nobody's way.
			c.Reads = []int64{100000, 100000, 100000, 100000}
			c.Reads[gate] = 0
			checkStepByRule(t, c, codeAt(2, in(name, gate)), fourSlots())
			checkStepByRule(t, c, codeAt(2, out(gate)), fourSlots())
		}
	}
}

func TestSlotsThatAreNone(t *testing.T) {
	for _, k := range knownSteps() {
		for name, slots := range noSlots() {
			if slotsByRule(slots) {
				t.Fatalf("%s: they are slots by the rule", name)
			}
			checkEndsWith(t, midCore(), codeAt(2, k.op), slots, impl.CnBad)
		}
		for _, slots := range someSlots() {
			if !slotsByRule(slots) {
				t.Fatalf("%v are no slots by the rule", slots)
			}
			checkStepByRule(t, midCore(), codeAt(2, k.op), slots)
		}
	}
	// Each limit met exactly.
	for _, slots := range someSlots() {
		if got := impl.Stepped(midCore(), codeAt(2, push(1)), slots); got.Core.Code != impl.CnRuns {
			t.Errorf("%v: %v", slots, got)
		}
	}
	for _, n := range wordsToTry() {
		if got := impl.Stepped(midCore(), codeAt(2, push(1)), [][]int64{{1}, {2, n}}); got.Core.Code != impl.CnRuns {
			t.Errorf("with the item %d: %v", n, got)
		}
	}
}

func TestCodeThatIsNone(t *testing.T) {
	for _, code := range noCodes() {
		if codeIsByRule(code) {
			t.Fatalf("%d Ops are code by the rule", len(code))
		}
		for at := range int64(6) {
			c := midCore()
			c.At = at
			checkEndsWith(t, c, code, fourSlots(), impl.CnBad)
		}
	}
	for _, wrong := range wrongOps() {
		for at := range 10 {
			code := oneOfEachKind()
			code[at] = wrong
			for _, own := range []int64{0, 5, 8, 9} {
				c := midCore()
				c.At = own
				checkEndsWith(t, c, code, fourSlots(), impl.CnBad)
			}
		}
	}
	// As many as there may be.
	for _, size := range []int{1, 299, 300} {
		c, want := impl.NewCore(), impl.NewCore()
		want.At, want.Pile = 1, []int64{6}
		checkStep(t, c, slices.Repeat([]impl.Op{push(6)}, size), fourSlots(), impl.Step{Core: want})
	}
}

func wrongCores() []impl.Core {
	cores := []impl.Core{{}, {Code: impl.CnBad}, {Code: impl.CnDone}}
	spoilt := []func(c *impl.Core){
		func(c *impl.Core) { c.At = -1 }, func(c *impl.Core) { c.At = 301 }, func(c *impl.Core) { c.At = math.MinInt64 }, func(c *impl.Core) { c.At = math.MaxInt64 },
		func(c *impl.Core) { c.Pile = make([]int64, 61) }, func(c *impl.Core) { c.Pile[0] = greatestWord + 1 }, func(c *impl.Core) { c.Pile[2] = leastWord - 1 },
		func(c *impl.Core) { c.Boxes = manyBoxes(13) }, func(c *impl.Core) { c.Boxes[1].Name = "a" }, func(c *impl.Core) { c.Boxes[0].Name = "" }, func(c *impl.Core) { c.Boxes[2].Value = 1 << 40 },
		func(c *impl.Core) { c.Reads = c.Reads[:3] }, func(c *impl.Core) { c.Reads = make([]int64, 5) }, func(c *impl.Core) { c.Reads = nil }, func(c *impl.Core) { c.Reads[0] = -1 }, func(c *impl.Core) { c.Reads[3] = 100001 },
	}
	for code := int64(0); code <= 4; code++ {
		for _, spoil := range spoilt {
			c := withCode(midCore(), code)
			spoil(&c)
			cores = append(cores, c)
		}
	}
	for _, code := range []int64{-1, 5, 6, -4, 1 << 32, 1<<32 + 1, math.MinInt64, math.MaxInt64} {
		cores = append(cores, withCode(midCore(), code), withCode(impl.NewCore(), code))
	}
	return cores
}

func TestCoresThatAreNotRight(t *testing.T) {
	bad := impl.Step{Core: impl.Core{Code: impl.CnBad}}
	for _, c := range wrongCores() {
		checkCore(t, c, false)
		for _, code := range someCodes() {
			checkStep(t, c, code, fourSlots(), bad)
		}
		checkStep(t, c, codeAt(2, wrongOps()[0]), fourSlots(), bad)
		checkStep(t, c, codeAt(2, stop()), nil, bad)
		checkStep(t, c, nil, nil, bad)
	}
	// Of what is answered there, the same is answered again.
	checkStep(t, bad.Core, codeAt(2, stop()), fourSlots(), bad)
}

// Slots or a code that are none are asked ahead of what the Op does, and all
// that is bad is the same.
func TestSeveralThingsAtOnce(t *testing.T) {
	failing := midCore()
	failing.Pile = []int64{5, 0}
	full := midCore()
	full.Pile, full.Boxes, full.Reads = slices.Repeat([]int64{8}, 60), manyBoxes(12), []int64{100000, 100000, 100000, 100000}
	nothing := impl.NewCore()
	nothing.At = 2
	ops := []impl.Op{push(1), load("m"), do(4), set("new"), in("new", 0), in("new", 3), in("a", 1), out(3), goTo(0), unless(0), stop(), end()}
	for _, c := range []impl.Core{midCore(), failing, full, nothing} {
		for _, o := range ops {
			for _, slots := range noSlots() {
				checkEndsWith(t, c, codeAt(2, o), slots, impl.CnBad)
			}
			for _, code := range noCodes() {
				checkEndsWith(t, c, code, fourSlots(), impl.CnBad)
			}
			checkEndsWith(t, c, append(codeAt(2, o), impl.Op{}), fourSlots(), impl.CnBad)
			checkEndsWith(t, c, append(codeAt(2, o), impl.Op{}), nil, impl.CnBad)
			checkEndsWith(t, c, codeAt(2, o)[:2], nil, impl.CnBad)
			checkStepByRule(t, c, codeAt(2, o), [][]int64{{1}})
		}
	}
	// By 0 fails on a full Pile, too, and with full Boxes.
	full.Pile[59] = 0
	checkEndsWith(t, full, codeAt(2, do(4)), fourSlots(), impl.CnFail)
	checkEndsWith(t, full, codeAt(2, stop()), fourSlots(), impl.CnStop)
	checkEndsWith(t, full, codeAt(2, end()), fourSlots(), impl.CnDone)
}

// checkRun goes from NewCore, by the rule at each step; promise 9.
func checkRun(t *testing.T, l []string, slots [][]int64, steps int) impl.Core {
	t.Helper()
	code, c := impl.CodeOf(l), impl.NewCore()
	for range steps {
		checkStepByRule(t, c, code, slots)
		c = impl.Stepped(c, code, slots).Core
		if c.Code == impl.CnBad || !impl.CoreOk(c) {
			t.Errorf("%.200q with %v comes to %v", l, slots, c)
		}
		if c.Code != impl.CnRuns {
			break
		}
	}
	return c
}

// slotsFor are as many as the play needs, and as many as there may be.
func slotsFor(l []string) [][][]int64 {
	least := 1
	for _, gate := range playByRule(l).gates {
		least = max(least, int(gate)+1)
	}
	filled := [][]int64{{1, 0, -3, 5}, {2, 2, 0}, {leastWord}, {greatestWord, 0}}
	return [][][]int64{make([][]int64, least), filled[:least], {{}, {0, 0, 0, 1}, {5, 4, 3, 2, 1}, {1, 1}}}
}

type knownRun struct {
	play  string
	slots [][]int64
	said  string // TICK:GATE:VALUE
	ticks int    // in how many it runs
	code  int64
	boxes string
}

func knownRuns() []knownRun {
	return []knownRun{
		{"", [][]int64{{}}, "", 0, 1, ""},
		{"stop", [][]int64{{}}, "", 0, 2, ""},
		{"set x 5", [][]int64{{}}, "", 2, 1, "x=5"},
		{"in x 1 out 0 + x 1", [][]int64{{}, {7}}, "4:0:8", 5, 1, "x=7"},
		{"in x 0 in x 0 in y 0", [][]int64{{4, 6}}, "", 3, 1, "x=6 y=0"},
		{"in x 0 in y 1 out 2 - x y out 3 - y x", [][]int64{{9, 1}, {4, 1}, {}, {}}, "5:2:5 9:3:-5", 10, 1, "x=9 y=4"},
		{"out 0 / 1 y out 0 1", [][]int64{{}}, "", 2, 3, ""},
		{"in y 0 out 0 / 7 y out 0 1", [][]int64{{2}}, "4:0:3 6:0:1", 7, 1, "y=2"},
		{"if x [ out 0 1 ] [ out 0 2 ] out 0 3", [][]int64{{}}, "3:0:2 5:0:3", 6, 1, ""},
		{"in x 0 if x [ out 0 1 ] [ out 0 2 ] out 0 3", [][]int64{{-1}}, "4:0:1 7:0:3", 8, 1, "x=-1"},
		{"in x 0 if x [ stop ] [ set y 5 ] out 0 y", [][]int64{{0, 8}}, "6:0:5", 7, 1, "x=0 y=5"},
		{"in x 0 if x [ stop ] [ set y 5 ] out 0 y", [][]int64{{8}}, "", 3, 2, "x=8"},
		{"in x 1 while < x 3 [ out 0 x set x + x 1 ]", [][]int64{{}, {1}}, "6:0:1 17:0:2", 27, 1, "x=3"},
		{"in x 0 while x [ out 1 x in x 0 ]", [][]int64{{6, 5, 4}, {}}, "4:1:6 10:1:5 16:1:4", 21, 1, "x=0"},
		{"set z + * 2 3 / 9 4", [][]int64{{}}, "", 8, 1, "z=8"},
	}
}

func saidText(said []string, tick int, s impl.Step) []string {
	if !s.Says {
		return said
	}
	return append(said, fmt.Sprintf("%d:%d:%d", tick, s.Gate, s.Value))
}

func boxText(boxes []impl.Box) string {
	texts := []string{}
	for _, box := range boxes {
		texts = append(texts, box.Name+"="+strconv.FormatInt(box.Value, 10))
	}
	return strings.Join(texts, " ")
}

func TestKnownRuns(t *testing.T) {
	for _, k := range knownRuns() {
		c, code, said, ticks := impl.NewCore(), impl.CodeOf(strings.Fields(k.play)), []string{}, 0
		for tick := range 1000 {
			s := impl.Stepped(c, code, k.slots)
			said, c = saidText(said, tick, s), s.Core
			if c.Code != impl.CnRuns {
				ticks = tick
				break
			}
		}
		if got := strings.Join(said, " "); got != k.said || ticks != k.ticks || c.Code != k.code || boxText(c.Boxes) != k.boxes {
			t.Errorf("%s: it says %q in %d ticks and comes to %v, want %q, %d, Code %d, %s", k.play, got, ticks, c, k.said, k.ticks, k.code, k.boxes)
		}
		checkRun(t, strings.Fields(k.play), k.slots, 1000)
	}
}

func TestPlaysAreNeverBad(t *testing.T) {
	for _, first := range knownDeeds() {
		l := strings.Fields(first.text)
		for _, slots := range slotsFor(l) {
			checkRun(t, l, slots, 400)
		}
		for _, second := range knownDeeds() {
			both := slices.Concat(l, strings.Fields(second.text))
			if !playByRule(both).is {
				continue
			}
			for _, slots := range slotsFor(both) {
				checkRun(t, both, slots, 60)
			}
		}
	}
	for _, k := range knownCodes() {
		l := strings.Fields(k.play)
		for _, slots := range slotsFor(l) {
			checkRun(t, l, slots, 200)
		}
	}
	for _, k := range knownSums() {
		for _, deed := range []string{"out 0 " + k.text, "set y " + k.text, "if " + k.text + " [ stop ] [ ]", "while " + k.text + " [ in x 0 ]"} {
			checkRun(t, strings.Fields(deed), [][]int64{{3, 1}}, 200)
		}
	}
}

// Plays at their own limits meet no limit of the player but that of Reads.
func TestPlaysAtTheirLimitsAreNeverBad(t *testing.T) {
	deepest := 0
	for _, l := range [][]string{
		slices.Concat([]string{"out", "0"}, leaningRight(48, "x")), slices.Concat([]string{"set", "x"}, leaningRight(48, "x"), []string{"stop"}),
		slices.Concat([]string{"set", "x"}, leaningLeft(48, "x")), slices.Concat([]string{"while"}, leaningRight(47, "1"), []string{"[", "]"}),
		slices.Concat([]string{"set", "x"}, wideSum(97)), times(100, "stop"), append(times(33, "in x 0"), "stop"), times(25, "while x [ ]"), times(33, "set x 1"),
	} {
		code, c := impl.CodeOf(l), impl.NewCore()
		if len(code) == 0 {
			t.Fatalf("%q is no play", l)
		}
		checkRun(t, l, [][]int64{{}}, 400)
		for range 400 {
			c = impl.Stepped(c, code, [][]int64{{}}).Core
			deepest = max(deepest, len(c.Pile))
		}
	}
	if deepest != 49 {
		t.Errorf("the deepest Pile has %d words", deepest)
	}
	for _, l := range playsOfNames(letters(12)) {
		for _, slots := range slotsFor(l) {
			checkRun(t, l, slots, 400)
		}
	}
	twelve := checkRun(t, times(1, "set a b in c 0 set d e set f g set h i in j 2 set k l set e d set b a set g f set i h set l k"), fourSlots(), 400)
	if len(twelve.Boxes) != 12 || twelve.Code != impl.CnDone {
		t.Errorf("with twelve names it comes to %v", twelve)
	}
}

// What chapter 9 says of MaxReads holds of plays, too: only there one is bad.
func TestPlaysThatReadTooOften(t *testing.T) {
	code, slots := impl.CodeOf(strings.Fields("while 1 [ in x 0 in y 1 ]")), [][]int64{{5}, {6}}
	c := impl.NewCore()
	steps := 0
	for c.Code == impl.CnRuns && steps < 600000 {
		c = impl.Stepped(c, code, slots).Core
		steps++
	}
	want := impl.Core{At: 2, Boxes: []impl.Box{{Name: "x"}, {Name: "y"}}, Reads: []int64{100000, 100000, 0, 0}, Code: impl.CnBad}
	if !coresAlike(c, want) || steps != 5*100000+3 || !impl.CoreOk(c) {
		t.Errorf("in %d steps it comes to %v, want %v", steps, c, want)
	}
}

func TestManyPlaysAreNeverBad(t *testing.T) {
	m := newMaker(9)
	plays, ends := 0, map[int64]int{}
	for plays < 1500 {
		l := m.deeds(1+m.Intn(8), 5)
		if !playByRule(l).is {
			continue
		}
		plays++
		for _, slots := range slotsFor(l) {
			ends[checkRun(t, l, slots, 150).Code]++
		}
	}
	for code := int64(0); code <= 3; code++ {
		if ends[code] < 30 {
			t.Errorf("the ends are %v", ends)
		}
	}
}

// Whatever Core, code and slots, promise 9: what is right stays right.
func TestManySteps(t *testing.T) {
	m := newMaker(99)
	codes, kinds, said := map[int64]int{}, map[int64]int{}, 0
	for range 60000 {
		c, code, slots := m.core(), m.code(), m.slots()
		checkStepByRule(t, c, code, slots)
		want := stepByRule(c, code, slots)
		if coreByRule(c) && c.Code == impl.CnRuns {
			codes[want.Core.Code]++
			if want.Core.Code != impl.CnBad {
				kinds[code[c.At].Kind]++
			}
		}
		if want.Says {
			said++
		}
		if t.Failed() {
			return
		}
	}
	for code := int64(0); code <= 4; code++ {
		if codes[code] < 200 {
			t.Errorf("the Codes are %v", codes)
		}
	}
	for kind := int64(1); kind <= 10; kind++ {
		if kinds[kind] < 500 {
			t.Errorf("the kinds are %v, %d said", kinds, said)
		}
	}
}

// Codes that are no play's may lead anywhere; what is right stays right there,
// too.
func TestManyRunsOfAnyCode(t *testing.T) {
	m := newMaker(999)
	for range 3000 {
		c, code, slots := impl.NewCore(), m.code(), m.slots()
		for range 40 {
			checkStepByRule(t, c, code, slots)
			c = impl.Stepped(c, code, slots).Core
			if c.Code != impl.CnRuns || t.Failed() {
				break
			}
		}
	}
}

func checkSame(t *testing.T, a impl.Core, b impl.Core, want bool) {
	t.Helper()
	if impl.SameCore(a, b) != want || impl.SameCore(b, a) != want {
		t.Errorf("SameCore(%v, %v) = %v, the other way round %v, want %v", a, b, impl.SameCore(a, b), impl.SameCore(b, a), want)
	}
}

func TestSameCore(t *testing.T) {
	checkSame(t, impl.NewCore(), impl.NewCore(), true)
	checkSame(t, midCore(), midCore(), true)
	checkSame(t, midCore(), impl.NewCore(), false)
	checkSame(t, impl.Core{}, impl.Core{}, true)
	checkSame(t, impl.Core{}, impl.NewCore(), false)
	changes := []func(c *impl.Core){
		func(c *impl.Core) { c.At = 3 }, func(c *impl.Core) { c.At = 0 }, func(c *impl.Core) { c.Code = 1 }, func(c *impl.Core) { c.Code = 4 },
		func(c *impl.Core) { c.Pile[0] = 12 }, func(c *impl.Core) { c.Pile[1] = 7 }, func(c *impl.Core) { c.Pile[2] = 0 }, func(c *impl.Core) { c.Pile = c.Pile[:2] }, func(c *impl.Core) { c.Pile = c.Pile[1:] }, func(c *impl.Core) { c.Pile = nil }, func(c *impl.Core) { c.Pile = append(c.Pile, 0) }, func(c *impl.Core) { c.Pile = append(c.Pile, 3) }, func(c *impl.Core) { slices.Reverse(c.Pile) },
		func(c *impl.Core) { c.Boxes[0].Name = "a" }, func(c *impl.Core) { c.Boxes[0].Value = 21 }, func(c *impl.Core) { c.Boxes[1].Name = "n" }, func(c *impl.Core) { c.Boxes[2].Value = 0 }, func(c *impl.Core) { c.Boxes[2].Name = "xx" }, func(c *impl.Core) { c.Boxes = c.Boxes[:2] }, func(c *impl.Core) { c.Boxes = c.Boxes[1:] }, func(c *impl.Core) { c.Boxes = nil }, func(c *impl.Core) { c.Boxes = append(c.Boxes, impl.Box{Name: "z"}) },
		func(c *impl.Core) { c.Reads[0] = 0 }, func(c *impl.Core) { c.Reads[1] = 1 }, func(c *impl.Core) { c.Reads[2] = 3 }, func(c *impl.Core) { c.Reads[3] = 100 }, func(c *impl.Core) { c.Reads = c.Reads[:3] }, func(c *impl.Core) { c.Reads = append(c.Reads, 0) }, func(c *impl.Core) { c.Reads = nil },
	}
	for k, change := range changes {
		a := midCore()
		change(&a)
		checkSame(t, a, midCore(), false)
		checkSame(t, a, cloned(a), true)
		for j, other := range changes {
			b := midCore()
			other(&b)
			checkSame(t, a, b, k == j)
		}
	}
	// An empty list and nil are one, and so is whatever spare room there is.
	a, b := impl.NewCore(), impl.NewCore()
	a.Pile, a.Boxes, b.Pile, b.Boxes = []int64{}, []impl.Box{}, nil, nil
	checkSame(t, a, b, true)
	a, b = midCore(), midCore()
	a.Pile, b.Pile = []int64{11, -7, 3, 4}[:3], []int64{11, -7, 3, 5}[:3]
	checkSame(t, a, b, true)
	a.Pile, b.Pile = nil, []int64{1, 2}[:0]
	checkSame(t, a, b, true)
}

// Nothing is told of Cores that are not right: they are asked as others are.
func TestSameCoreOfWhatIsNotRight(t *testing.T) {
	for k, a := range wrongCores() {
		for j, b := range wrongCores() {
			checkSame(t, a, b, coresAlike(a, b))
			if k == j {
				checkSame(t, a, b, true)
			}
		}
		checkSame(t, a, midCore(), false)
		checkSame(t, a, impl.NewCore(), false)
	}
	long, other := impl.Core{Pile: make([]int64, 100000)}, impl.Core{Pile: make([]int64, 100000)}
	checkSame(t, long, other, true)
	other.Pile[99999] = 1
	checkSame(t, long, other, false)
}

// A call of Stepped, all its lists with room behind them.
type stepCall struct {
	core  impl.Core
	code  []impl.Op
	slots [][]int64
	all   func() string
}

func callInRoom(c impl.Core, code []impl.Op, slots [][]int64) stepCall {
	pile, pileRoom := inRoom(c.Pile, -99)
	boxes, boxRoom := inRoom(c.Boxes, impl.Box{Name: "spare", Value: -99})
	reads, readRoom := inRoom(c.Reads, -99)
	ops, opRoom := inRoom(code, push(-99))
	lists, listRoom := inRoom(slots, []int64{-99})
	itemRooms := [][]int64{}
	for k, slot := range slots {
		items, itemRoom := inRoom(slot, -99)
		lists[k], itemRooms = items, append(itemRooms, itemRoom)
	}
	core := impl.Core{At: c.At, Pile: pile, Boxes: boxes, Reads: reads, Code: c.Code}
	return stepCall{core, ops, lists, func() string {
		return fmt.Sprint(core, pileRoom, boxRoom, readRoom, opRoom, listRoom, itemRooms)
	}}
}

// callsToKeep have one for each way a step may go.
func callsToKeep() []stepCall {
	full := midCore()
	full.Pile, full.Boxes = slices.Repeat([]int64{8}, 60), manyBoxes(12)
	failing := midCore()
	failing.Pile = []int64{5, 0}
	nothing := impl.NewCore()
	nothing.At = 2
	calls := []stepCall{}
	for _, k := range knownSteps() {
		for _, c := range []impl.Core{midCore(), full, failing, nothing, withCode(midCore(), 1), withCode(full, 4)} {
			calls = append(calls, callInRoom(c, codeAt(2, k.op), fourSlots()))
		}
		calls = append(calls, callInRoom(midCore(), codeAt(2, k.op), nil), callInRoom(midCore(), codeAt(2, k.op), fourSlots()[:1]))
		calls = append(calls, callInRoom(midCore(), append(codeAt(2, k.op), impl.Op{}), fourSlots()), callInRoom(midCore(), nil, fourSlots()))
	}
	for _, c := range wrongCores() {
		calls = append(calls, callInRoom(c, codeAt(2, stop()), fourSlots()))
	}
	return calls
}

func spoilCore(c impl.Core) {
	fill(c.Pile[:cap(c.Pile)], -77)
	fill(c.Boxes[:cap(c.Boxes)], impl.Box{Name: "spoilt", Value: -77})
	fill(c.Reads[:cap(c.Reads)], -77)
}

func TestWhatIsHandedToThePlayerStays(t *testing.T) {
	for _, call := range callsToKeep() {
		before := call.all()
		want := stepByRule(call.core, call.code, call.slots)
		first, second := impl.Stepped(call.core, call.code, call.slots), impl.Stepped(call.core, call.code, call.slots)
		impl.CoreOk(call.core)
		impl.SameCore(call.core, first.Core)
		spoilCore(first.Core)
		if after := call.all(); after != before {
			t.Errorf("what was handed in was %s and became %s", before, after)
		}
		third := impl.Stepped(call.core, call.code, call.slots)
		if !stepsAlike(second, want) || !stepsAlike(third, want) {
			t.Errorf("%s: other answers are %v and %v, want %v", before, second, third, want)
		}
	}
}

// What was handed in may change behind an answer: that stays as it was.
func TestAnswersOfThePlayerStay(t *testing.T) {
	for _, call := range callsToKeep() {
		want := stepByRule(call.core, call.code, call.slots)
		got := impl.Stepped(call.core, call.code, call.slots)
		spoilCore(call.core)
		fill(call.code, impl.Op{Kind: -77})
		for _, slot := range call.slots {
			spoil(slot)
		}
		if !stepsAlike(got, want) {
			t.Errorf("an answer became %v, want %v", got, want)
		}
	}
}

func TestListsOfOneAnswerShareNothing(t *testing.T) {
	for _, call := range callsToKeep() {
		want := stepByRule(call.core, call.code, call.slots).Core
		pile := impl.Stepped(call.core, call.code, call.slots).Core
		spoil(pile.Pile[:cap(pile.Pile)])
		pile.Pile = want.Pile
		reads := impl.Stepped(call.core, call.code, call.slots).Core
		spoil(reads.Reads[:cap(reads.Reads)])
		reads.Reads = want.Reads
		if !coresAlike(pile, want) || !coresAlike(reads, want) {
			t.Errorf("the Pile spoilt it is %v, the Reads spoilt %v, want %v", pile, reads, want)
		}
	}
	// Nor where lists of one argument do.
	shared := []int64{3, 2, 1, 0}
	c := impl.Core{Pile: shared, Reads: shared}
	got := impl.Stepped(c, []impl.Op{in("x", 0), push(5)}, [][]int64{shared, shared})
	want := impl.Core{At: 1, Pile: []int64{3, 2, 1, 0}, Boxes: []impl.Box{{Name: "x", Value: 0}}, Reads: []int64{4, 2, 1, 0}}
	if !coresAlike(got.Core, want) || !slices.Equal(shared, []int64{3, 2, 1, 0}) {
		t.Errorf("it is %v, want %v, and what was shared %v", got, want, shared)
	}
	got.Core.Reads[1] = 77
	if !slices.Equal(got.Core.Pile, want.Pile) || !slices.Equal(shared, want.Pile) {
		t.Errorf("the Reads changed, the Pile is %v and what was shared %v", got.Core.Pile, shared)
	}
}

// Two ways go on from one answer, and neither writes into its spare room.
func TestTwoStepsFromOneAnswer(t *testing.T) {
	for _, from := range knownSteps() {
		start := impl.Stepped(midCore(), codeAt(2, from.op), fourSlots()).Core
		before := cloned(start)
		start.Code, before.Code = impl.CnRuns, impl.CnRuns
		answers, wants := []impl.Step{}, []impl.Step{}
		for _, k := range knownSteps() {
			code := codeAt(start.At, k.op)
			if len(code) > 300 {
				continue
			}
			answers = append(answers, impl.Stepped(start, code, fourSlots()))
			wants = append(wants, stepByRule(before, code, fourSlots()))
		}
		if !coresAlike(start, before) || !slices.EqualFunc(answers, wants, stepsAlike) {
			t.Errorf("from %v: %v, want %v", start, answers, wants)
		}
	}
}

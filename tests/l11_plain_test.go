package tests

import (
	"fmt"
	"math"
	"slices"
	"strings"
	"testing"

	"loop.example/g00533/impl"
)

func TestNumbersOfRuns(t *testing.T) {
	if impl.MaxTicks != 3000 {
		t.Errorf("MaxTicks is %d", impl.MaxTicks)
	}
}

type stepper func(c impl.Core, code []impl.Op, slots [][]int64) impl.Step

// tickByTick goes through every tick there is, also where it does not run any
// more, and tells the tick behind which it did not.
func tickByTick(step stepper, code []impl.Op, slots [][]int64, ticks int64) (impl.Run, int64) {
	run, end := impl.Run{Core: impl.NewCore()}, int64(-1)
	for tick := int64(0); tick < ticks; tick++ {
		one := step(run.Core, code, slots)
		if run.Core.Code == 0 && one.Core.Code != 0 {
			end = tick
		}
		if one.Says {
			run.Said = append(run.Said, impl.Saying{Tick: tick, Gate: one.Gate, Value: one.Value})
		}
		run.Core = one.Core
	}
	return run, end
}

func plainBy(step stepper, h impl.Hall, code []impl.Op, ticks int64) (impl.Run, int64) {
	if !hallByRule(h) || !codeIsByRule(code) || ticks < 0 || ticks > 3000 {
		return impl.Run{}, -2
	}
	return tickByTick(step, code, h.Slots, ticks)
}

func runsAlike(a impl.Run, b impl.Run) bool {
	return coresAlike(a.Core, b.Core) && slices.Equal(a.Said, b.Said)
}

// checkPlain gives up at the first answer that is wrong: many of them would be
// long to show.
func checkPlain(t *testing.T, h impl.Hall, code []impl.Op, ticks int64, want impl.Run, end int64) {
	t.Helper()
	if got := impl.PlainRun(h, code, ticks); !runsAlike(got, want) {
		t.Fatalf("PlainRun(%.200v, %d Ops %.120v, %d) = %.200v, want %.200v", h, len(code), code, ticks, got, want)
	}
	if got := impl.EndOf(h, code, ticks); got != end {
		t.Fatalf("EndOf(%.200v, %d Ops %.120v, %d) = %d, want %d", h, len(code), code, ticks, got, end)
	}
}

// checkPlainBySteps is the last part of promise 11: what is Said is just what
// Stepped Says, tick by tick.
func checkPlainBySteps(t *testing.T, h impl.Hall, code []impl.Op, ticks int64) {
	t.Helper()
	want, end := plainBy(impl.Stepped, h, code, ticks)
	checkPlain(t, h, code, ticks, want, end)
}

// gatesToAsk are all there may be, and some that are never there.
func gatesToAsk() []int64 { return []int64{0, 1, 2, 3, -1, 4, math.MinInt64, math.MaxInt64} }

// checkLonger is promise 11 of two runs of which one has no fewer ticks.
func checkLonger(t *testing.T, h impl.Hall, code []impl.Op, ticks int64, more int64) {
	t.Helper()
	short, long := impl.PlainRun(h, code, ticks), impl.PlainRun(h, code, more)
	if len(short.Said) > len(long.Said) {
		t.Fatalf("%d Ops %.120v: in %d ticks %d are said, in %d ticks %d", len(code), code, ticks, len(short.Said), more, len(long.Said))
	}
	for k, saying := range long.Said {
		ahead := k < len(short.Said)
		if ahead && short.Said[k] != saying || ahead != (saying.Tick < ticks) || saying.Tick >= more {
			t.Fatalf("%d Ops %.120v: in %d ticks %.200v is said, in %d ticks %.200v", len(code), code, ticks, short.Said, more, long.Said)
		}
	}
	for _, g := range gatesToAsk() {
		if a, b := impl.ValuesAt(short.Said, g), impl.ValuesAt(long.Said, g); !impl.Begins(a, b) {
			t.Fatalf("%d Ops %.120v: at %d, in %d ticks %.200v, in %d ticks %.200v", len(code), code, g, ticks, a, more, b)
		}
	}
	end := impl.EndOf(h, code, ticks)
	if ended := short.Core.Code != impl.CnRuns; ended != (end >= 0) || ended && (!runsAlike(short, long) || impl.EndOf(h, code, more) != end) {
		t.Fatalf("%d Ops %.120v: in %d ticks it ends in %d, in %d ticks in %d; %.200v, %.200v", len(code), code, ticks, end, more, impl.EndOf(h, code, more), short, long)
	}
}

// checkAllTicks asks for each count of ticks, and for each two that follow one
// another.
func checkAllTicks(t *testing.T, h impl.Hall, code []impl.Op, ticks ...int64) {
	t.Helper()
	for k, count := range ticks {
		checkPlainBySteps(t, h, code, count)
		if k > 0 {
			checkLonger(t, h, code, ticks[k-1], count)
		}
	}
}

func upTo(n int64) []int64 {
	l := []int64{}
	for k := range n + 1 {
		l = append(l, k)
	}
	return l
}

// hallsOf have these slots, and Orders and Gates with which hardly anybody, some
// or all may see them.
func hallsOf(slots [][]int64) []impl.Hall {
	n := len(slots)
	return []impl.Hall{
		hallOf("1", make([]int64, n), slots),
		hallOf("11/01", []int64{0, 1, 0, 1}[:n], slots),
		hallOf("11/01", []int64{1, 1, 1, 1}[:n], slots),
		hallOf("10/11", []int64{0, 0, 0, 1}[:n], slots),
		hallOf(diamond, []int64{3, 2, 1, 0}[:n], slots),
		hallOf(diamond, []int64{1, 2, 2, 1}[:n], slots),
		hallOf("111111/011111/001111/000111/000011/000001", []int64{5, 0, 3, 3}[:n], slots),
	}
}

func sayingsText(said []impl.Saying) string {
	texts := []string{}
	for _, one := range said {
		texts = append(texts, fmt.Sprintf("%d:%d:%d", one.Tick, one.Gate, one.Value))
	}
	return strings.Join(texts, " ")
}

// sayingsOf reads what sayingsText writes.
func sayingsOf(text string) []impl.Saying {
	said := []impl.Saying{}
	for _, word := range strings.Fields(text) {
		one := impl.Saying{}
		fmt.Sscanf(word, "%d:%d:%d", &one.Tick, &one.Gate, &one.Value)
		said = append(said, one)
	}
	return said
}

// In no Hall there are curtains: whoever may see what, it is played the same.
func TestKnownRunsInHalls(t *testing.T) {
	for _, k := range knownRuns() {
		code := impl.CodeOf(strings.Fields(k.play))
		for _, h := range hallsOf(k.slots) {
			for _, ticks := range []int64{int64(k.ticks) + 1, int64(k.ticks) + 2, 2999, 3000} {
				got := impl.PlainRun(h, code, ticks)
				if sayingsText(got.Said) != k.said || got.Core.Code != k.code || boxText(got.Core.Boxes) != k.boxes {
					t.Errorf("%s: %d ticks come to %v, want %q, Code %d, %s", k.play, ticks, got, k.said, k.code, k.boxes)
				}
				if end := impl.EndOf(h, code, ticks); end != int64(k.ticks) {
					t.Errorf("%s: of %d ticks it ends in %d, want %d", k.play, ticks, end, k.ticks)
				}
			}
			for ticks := range int64(k.ticks) + 1 {
				got, end := impl.PlainRun(h, code, ticks), impl.EndOf(h, code, ticks)
				if got.Core.Code != impl.CnRuns || end != -1 {
					t.Errorf("%s: %d ticks come to %v, and it ends in %d", k.play, ticks, got, end)
				}
			}
			checkAllTicks(t, h, code, upTo(int64(k.ticks)+3)...)
		}
	}
}

func TestWhatIsHighIsHeardLow(t *testing.T) {
	code := impl.CodeOf(strings.Fields("in x 1 out 0 x in x 1 out 1 x in x 0 out 0 x"))
	for _, h := range hallsOf([][]int64{{5}, {7, 8}}) {
		got := impl.PlainRun(h, code, 3000)
		if text := sayingsText(got.Said); text != "2:0:7 5:1:8 8:0:5" || !slices.Equal(got.Core.Reads, []int64{1, 2, 0, 0}) {
			t.Errorf("%v: %v", h, got)
		}
	}
}

// A knownEnd is of two slots: {5, -6} and none.
type knownEnd struct {
	name string
	code []impl.Op
	end  int64
	said string
	core impl.Core // Reads of nothing are left out
}

func playCode(play string) []impl.Op { return impl.CodeOf(strings.Fields(play)) }

func ones(count int) []int64 { return slices.Repeat([]int64{1}, count) }

func knownEnds() []knownEnd {
	x := func(value int64) []impl.Box { return []impl.Box{{Name: "x", Value: value}} }
	insTo := []impl.Op{}
	for _, name := range letters(13) {
		insTo = append(insTo, in(name, 1))
	}
	return []knownEnd{
		{"the empty play", playCode(""), 0, "", impl.Core{Code: 1}},
		{"done", playCode("in x 0 out 1 x"), 3, "2:1:5", impl.Core{At: 3, Boxes: x(5), Reads: []int64{1, 0, 0, 0}, Code: 1}},
		{"done, something on the Pile", []impl.Op{push(4), push(-4), end()}, 2, "", impl.Core{At: 2, Pile: []int64{4, -4}, Code: 1}},
		{"the first Op ends it", []impl.Op{end(), push(1), out(0)}, 0, "", impl.Core{Code: 1}},
		{"the first Op stops it", playCode("stop out 0 1"), 0, "", impl.Core{Code: 2}},
		{"stop", playCode("set x 4 out 0 x stop out 0 x"), 4, "3:0:4", impl.Core{At: 4, Boxes: x(4), Code: 2}},
		{"stop, something on the Pile", []impl.Op{push(7), in("x", 0), in("x", 0), stop(), end()}, 3, "", impl.Core{At: 3, Pile: []int64{7}, Boxes: x(-6), Reads: []int64{2, 0, 0, 0}, Code: 2}},
		{"fail", playCode("out 0 7 out 0 + 1 / 5 0 out 0 8"), 5, "1:0:7", impl.Core{At: 5, Pile: []int64{1, 5, 0}, Code: 3}},
		{"fail behind what is read", playCode("in y 1 in x 0 out 1 x out 1 / x y"), 6, "3:1:5", impl.Core{At: 6, Pile: []int64{5, 0}, Boxes: []impl.Box{{Name: "x", Value: 5}, {Name: "y"}}, Reads: []int64{1, 1, 0, 0}, Code: 3}},
		{"no Ops", nil, 0, "", impl.Core{Code: 4}},
		{"no Ops, not nil", []impl.Op{}, 0, "", impl.Core{Code: 4}},
		{"past the end", []impl.Op{push(3)}, 1, "", impl.Core{At: 1, Pile: []int64{3}, Code: 4}},
		{"past the end behind what is said", []impl.Op{push(3), out(1)}, 2, "1:1:3", impl.Core{At: 2, Code: 4}},
		{"go past the end", []impl.Op{goTo(300), end()}, 1, "", impl.Core{At: 300, Code: 4}},
		{"go to the end", []impl.Op{goTo(2), end()}, 1, "", impl.Core{At: 2, Code: 4}},
		{"unless past the end", []impl.Op{push(0), unless(17), stop()}, 2, "", impl.Core{At: 17, Code: 4}},
		{"out where no gate is", []impl.Op{push(6), out(0), push(1), out(2), end()}, 3, "1:0:6", impl.Core{At: 3, Pile: []int64{1}, Code: 4}},
		{"out at the last gate there may be", []impl.Op{push(1), out(3)}, 1, "", impl.Core{At: 1, Pile: []int64{1}, Code: 4}},
		{"in where no gate is", []impl.Op{in("x", 2), end()}, 0, "", impl.Core{Code: 4}},
		{"in at the last gate there may be", []impl.Op{in("x", 0), in("y", 3)}, 1, "", impl.Core{At: 1, Boxes: x(5), Reads: []int64{1, 0, 0, 0}, Code: 4}},
		{"a play of a gate that is not there", playCode("out 1 3 in x 2 stop"), 2, "1:1:3", impl.Core{At: 2, Code: 4}},
		{"out of nothing at first", []impl.Op{out(0), end()}, 0, "", impl.Core{Code: 4}},
		{"out of nothing", []impl.Op{push(9), out(0), out(0), end()}, 2, "1:0:9", impl.Core{At: 2, Code: 4}},
		{"do of nothing", []impl.Op{do(4), end()}, 0, "", impl.Core{Code: 4}},
		{"do of one", []impl.Op{push(0), do(4), end()}, 1, "", impl.Core{At: 1, Pile: []int64{0}, Code: 4}},
		{"set of nothing", []impl.Op{set("x"), end()}, 0, "", impl.Core{Code: 4}},
		{"unless of nothing", []impl.Op{unless(1), end()}, 0, "", impl.Core{Code: 4}},
		{"a Pile too deep", slices.Repeat([]impl.Op{push(1)}, 61), 60, "", impl.Core{At: 60, Pile: ones(60), Code: 4}},
		{"a Pile just deep enough", append(slices.Repeat([]impl.Op{push(1)}, 60), end()), 60, "", impl.Core{At: 60, Pile: ones(60), Code: 1}},
		{"a Pile that gets too deep", []impl.Op{push(1), goTo(0)}, 120, "", impl.Core{Pile: ones(60), Code: 4}},
		{"thirteen Boxes", insTo, 12, "", impl.Core{At: 12, Boxes: nought(letters(12)), Reads: []int64{0, 12, 0, 0}, Code: 4}},
		{"300 Ops, past the end", slices.Repeat([]impl.Op{push(2), out(0)}, 150), 300, sayingsText(twosSaid(150)), impl.Core{At: 300, Code: 4}},
		{"300 Ops", append(slices.Repeat([]impl.Op{goTo(298)}, 298), push(2), out(1)), 3, "2:1:2", impl.Core{At: 300, Code: 4}},
		{"300 Ops, the last one ends it", append(slices.Repeat([]impl.Op{push(2), out(0)}, 149), push(2), end()), 299, sayingsText(twosSaid(149)), impl.Core{At: 299, Pile: []int64{2}, Code: 1}},
	}
}

func nought(names []string) []impl.Box {
	boxes := []impl.Box{}
	for _, name := range names {
		boxes = append(boxes, impl.Box{Name: name})
	}
	return boxes
}

func twosSaid(count int64) []impl.Saying {
	said := []impl.Saying{}
	for k := range count {
		said = append(said, impl.Saying{Tick: 2*k + 1, Value: 2})
	}
	return said
}

func twoSlots() [][]int64 { return [][]int64{{5, -6}, {}} }

// wantOfEnd is what it comes to in that many ticks or more.
func wantOfEnd(k knownEnd) impl.Run {
	want := impl.Run{Core: k.core, Said: sayingsOf(k.said)}
	if want.Core.Reads == nil {
		want.Core.Reads = make([]int64, 4)
	}
	return want
}

func TestKnownEnds(t *testing.T) {
	for _, k := range knownEnds() {
		for _, h := range hallsOf(twoSlots())[1:5] {
			want := wantOfEnd(k)
			for _, ticks := range []int64{k.end + 1, k.end + 2, k.end + 3, 1500, 2999, 3000} {
				checkPlain(t, h, k.code, ticks, want, k.end)
			}
			for _, ticks := range []int64{-1, 3001, math.MinInt64, math.MaxInt64} {
				checkPlain(t, h, k.code, ticks, impl.Run{}, -2)
			}
			for _, ticks := range []int64{0, k.end / 2, k.end} {
				if got := impl.PlainRun(h, k.code, ticks); got.Core.Code != impl.CnRuns || impl.EndOf(h, k.code, ticks) != -1 {
					t.Errorf("%s: %d ticks come to %.200v, and it ends in %d", k.name, ticks, got, impl.EndOf(h, k.code, ticks))
				}
			}
		}
		h := hallOf("11/01", []int64{0, 1}, twoSlots())
		checkAllTicks(t, h, k.code, upTo(k.end+2)...)
	}
}

// Where nothing ends it, the Core is the one behind the last tick.
func TestRunsThatDoNotEnd(t *testing.T) {
	x := func(value int64) []impl.Box { return []impl.Box{{Name: "x", Value: value}} }
	for _, k := range []struct {
		ticks int64
		said  string
		core  impl.Core
	}{
		{1, "", impl.Core{At: 1, Pile: []int64{1}, Reads: []int64{0, 0, 0, 0}}},
		{2, "", impl.Core{At: 2, Reads: []int64{0, 0, 0, 0}}},
		{3, "", impl.Core{At: 3, Boxes: x(5), Reads: []int64{1, 0, 0, 0}}},
		{4, "", impl.Core{At: 4, Pile: []int64{5}, Boxes: x(5), Reads: []int64{1, 0, 0, 0}}},
		{5, "4:1:5", impl.Core{At: 5, Boxes: x(5), Reads: []int64{1, 0, 0, 0}}},
		{6, "4:1:5", impl.Core{At: 0, Boxes: x(5), Reads: []int64{1, 0, 0, 0}}},
		{10, "4:1:5", impl.Core{At: 4, Pile: []int64{-6}, Boxes: x(-6), Reads: []int64{2, 0, 0, 0}}},
		{18, "4:1:5 10:1:-6 16:1:0", impl.Core{At: 0, Boxes: x(0), Reads: []int64{3, 0, 0, 0}}},
	} {
		for _, h := range hallsOf(twoSlots()) {
			checkPlain(t, h, playCode("while 1 [ in x 0 out 1 x ]"), k.ticks, impl.Run{Core: k.core, Said: sayingsOf(k.said)}, -1)
		}
	}
	got := impl.PlainRun(hallsOf(twoSlots())[0], playCode("while 1 [ in x 0 out 1 x ]"), 3000)
	want := impl.Core{At: 0, Boxes: x(0), Reads: []int64{500, 0, 0, 0}}
	if !coresAlike(got.Core, want) || len(got.Said) != 500 || got.Said[499] != (impl.Saying{Tick: 2998, Gate: 1}) {
		t.Errorf("in 3000 ticks %d are said, and it is %v, want %v", len(got.Said), got.Core, want)
	}
}

// In 0 ticks nothing is done, whatever the code: it is not even seen that there
// is no Op.
func TestNoTicks(t *testing.T) {
	codes := slices.Concat(someCodes(), [][]impl.Op{slices.Repeat([]impl.Op{end()}, 300)})
	for _, k := range knownEnds() {
		codes = append(codes, k.code)
	}
	for _, code := range codes {
		for _, h := range hallsOf(twoSlots()) {
			checkPlain(t, h, code, 0, impl.Run{Core: impl.Core{Reads: []int64{0, 0, 0, 0}}}, -1)
		}
	}
}

// Nothing can be said in tick 0, as nothing lies there yet; in the last tick
// there may be something can.
func TestTheFirstAndTheLastTick(t *testing.T) {
	h := hallOf("11/01", []int64{0, 1}, twoSlots())
	fourth := []impl.Op{goTo(1), push(7), out(1), goTo(0)}
	for _, k := range []struct {
		ticks int64
		count int
		last  int64
		at    int64
	}{
		{0, 0, 0, 0}, {1, 0, 0, 1}, {2, 0, 0, 2}, {3, 1, 2, 3}, {4, 1, 2, 0}, {6, 1, 2, 2}, {7, 2, 6, 3},
		{2997, 749, 2994, 1}, {2998, 749, 2994, 2}, {2999, 750, 2998, 3}, {3000, 750, 2998, 0},
	} {
		got := impl.PlainRun(h, fourth, k.ticks)
		last := impl.Saying{}
		if len(got.Said) > 0 {
			last = got.Said[len(got.Said)-1]
		}
		if len(got.Said) != k.count || last.Tick != k.last || got.Core.At != k.at || impl.EndOf(h, fourth, k.ticks) != -1 {
			t.Errorf("%d ticks: %d are said, the last one %v, and it is %v", k.ticks, len(got.Said), last, got.Core)
		}
	}
	// Each third tick something is said, in 2999 too.
	third := []impl.Op{goTo(1), push(7), out(1), goTo(1)}
	for _, code := range [][]impl.Op{third, fourth} {
		checkAllTicks(t, h, code, 0, 1, 2, 3, 4, 5, 6, 7, 8, 9, 100, 1000, 2990, 2991, 2992, 2993, 2994, 2995, 2996, 2997, 2998, 2999, 3000)
	}
	all, less := impl.PlainRun(h, third, 3000), impl.PlainRun(h, third, 2999)
	if len(all.Said) != 1000 || len(less.Said) != 999 || all.Said[999] != (impl.Saying{Tick: 2999, Gate: 1, Value: 7}) {
		t.Errorf("%d are said, in a tick less %d", len(all.Said), len(less.Said))
	}
	if got := impl.PlainRun(h, []impl.Op{push(3), out(0), end()}, 2); sayingsText(got.Said) != "1:0:3" || got.Core.Code != impl.CnRuns {
		t.Errorf("in two ticks: %v", got)
	}
}

// countingCode does its last Op in just that tick: each of its rounds takes nine
// ticks, and what is left of them is passed ahead.
func countingCode(tick int64, last impl.Op) []impl.Op {
	rounds, ahead := (tick-6)/9, (tick-6)%9
	return slices.Concat(slices.Repeat([]impl.Op{push(0)}, int(ahead)), []impl.Op{
		load("x"), push(rounds), do(5), unless(ahead + 9), load("x"), push(1), do(1), set("x"), goTo(ahead),
		push(1), push(0), last,
	})
}

// Where it ends in the last tick there may be, it has ended; where it would a
// tick later, it runs yet.
func TestEndsAroundMaxTicks(t *testing.T) {
	h := hallOf("1", []int64{0}, [][]int64{{}})
	for code, last := range map[int64]impl.Op{1: end(), 2: stop(), 3: do(4), 4: out(3)} {
		for tick := int64(2990); tick <= 3005; tick++ {
			ops, want, wantCode := countingCode(tick, last), tick, code
			if tick > 2999 {
				want, wantCode = -1, 0
			}
			if got := impl.EndOf(h, ops, 3000); got != want {
				t.Errorf("%v in tick %d: it ends in %d, want %d", last, tick, got, want)
			}
			if got := impl.PlainRun(h, ops, 3000); got.Core.Code != wantCode {
				t.Errorf("%v in tick %d: it comes to %v, want Code %d", last, tick, got.Core, wantCode)
			}
			checkAllTicks(t, h, ops, 2988, 2989, 2998, 2999, 3000)
		}
	}
}

func TestTicksOutOfRange(t *testing.T) {
	h := hallOf("11/01", []int64{0, 1}, twoSlots())
	// Those that end come first: of the others too many ticks may take for ever.
	for _, play := range []string{"", "stop", "out 0 / 1 0", "while 1 [ ]", "while 1 [ out 0 3 ]", "while 1 [ in x 0 out 1 x ]"} {
		code := playCode(play)
		for _, ticks := range append(aroundLimits(), 2999, 3000, 3001, 3002, 4096, 6000, -3000, -3001, 1<<32+3000, math.MaxInt64-3000, math.MinInt64+3000) {
			if ticks >= 0 && ticks <= 3000 {
				checkPlainBySteps(t, h, code, ticks)
				continue
			}
			checkPlain(t, h, code, ticks, impl.Run{}, -2)
		}
	}
	// A play that runs on.
	code := playCode("while 1 [ out 0 3 ]")
	run := impl.PlainRun(h, code, 3000)
	if len(run.Said) != 600 || run.Said[599] != (impl.Saying{Tick: 2998, Gate: 0, Value: 3}) || run.Core.Code != impl.CnRuns || run.Core.At != 0 || impl.EndOf(h, code, 3000) != -1 {
		t.Errorf("%d are said, %v", len(run.Said), run.Core)
	}
}

// wrongHalls have one for each way of a Hall not to be right.
func wrongHalls() map[string]impl.Hall {
	halls := map[string]impl.Hall{
		"the zero Hall": {}, "no order": {Gates: []int64{0}, Slots: [][]int64{{5}}},
		"no gates": hallOf("1", nil, [][]int64{{5}}), "no slots": hallOf("1", []int64{0}, nil), "an order alone": hallOf("1", nil, nil),
		"five of each": hallOf("1", make([]int64, 5), make([][]int64, 5)), "a slot more": hallOf(diamond, []int64{0, 1}, fourSlots()[:3]), "a gate more": hallOf(diamond, []int64{0, 1, 2}, fourSlots()[:2]),
		"slots in the spare room": hallOf(diamond, []int64{0, 1, 2}, fourSlots()[:2:4]),
	}
	for name, ups := range wrongUps() {
		halls["of no order: "+name] = impl.Hall{Order: impl.Order{Ups: ups}, Gates: []int64{0, 0}, Slots: twoSlots()}
	}
	for _, k := range knownNoLattices() {
		halls["of no lattice: "+k.name] = hallOf(k.order, []int64{1, 0}, twoSlots())
	}
	for _, rank := range []int64{-1, 4, 5, 6, 64, 1 << 32, math.MinInt64, math.MaxInt64} {
		halls[fmt.Sprint("a gate of rank ", rank)] = hallOf(diamond, []int64{3, rank}, twoSlots())
	}
	for name, slots := range noSlots() {
		halls["slots: "+name] = hallOf(diamond, make([]int64, min(len(slots), 4)), slots)
	}
	return halls
}

func TestPlayedInWhatIsNoHall(t *testing.T) {
	codes := append(someCodes(), playCode("out 0 1"), playCode("stop"), playCode("while 1 [ out 0 1 ]"))
	for name, h := range wrongHalls() {
		if hallByRule(h) {
			t.Fatalf("%s: a Hall by the rule", name)
		}
		for _, code := range codes {
			for _, ticks := range []int64{0, 1, 2, 3, 100, 3000, -1, 3001} {
				checkPlain(t, h, code, ticks, impl.Run{}, -2)
			}
		}
	}
}

// Code that is none is not played, though it would end ahead of the Op that is
// not right, or has no tick to come there.
func TestPlayedOfCodeThatIsNone(t *testing.T) {
	codes := noCodes()
	for _, wrong := range wrongOps() {
		codes = append(codes, []impl.Op{wrong}, []impl.Op{stop(), wrong}, []impl.Op{push(1), out(0), end(), wrong}, []impl.Op{goTo(2), wrong, goTo(0)})
	}
	codes = append(codes, slices.Repeat([]impl.Op{stop()}, 301), append(slices.Repeat([]impl.Op{push(2), out(0)}, 150), end()))
	for _, code := range codes {
		for _, h := range append(hallsOf(twoSlots())[:2], impl.Hall{}) {
			for _, ticks := range []int64{0, 1, 2, 3, 50, 3000, 3001, -1} {
				checkPlain(t, h, code, ticks, impl.Run{}, -2)
			}
		}
	}
	// What lies behind the Ops is none of the code.
	spare := append(slices.Repeat([]impl.Op{goTo(299)}, 299), stop(), impl.Op{})
	checkPlain(t, diamondHall(), spare[:300], 9, impl.Run{Core: impl.Core{At: 299, Reads: make([]int64, 4), Code: 2}}, 1)
	checkPlain(t, diamondHall(), spare, 9, impl.Run{}, -2)
}

func TestHallsAtTheirLimitsArePlayed(t *testing.T) {
	code := playCode("while 1 [ in x 3 out 0 x ]")
	for size := int64(38); size <= 42; size++ {
		h := diamondHall()
		h.Slots[3] = slices.Repeat([]int64{-9}, int(size))
		if size > 40 {
			checkPlain(t, h, code, 3000, impl.Run{}, -2)
			continue
		}
		values := impl.ValuesAt(impl.PlainRun(h, code, 3000).Said, 0)
		if len(values) != 500 || values[size-1] != -9 || values[size] != 0 || !slices.Equal(values[size:], make([]int64, 500-size)) {
			t.Errorf("of %d items %v is said", size, values)
		}
		checkPlainBySteps(t, h, code, 3000)
	}
	for _, n := range []int64{leastWord - 1, leastWord, greatestWord, greatestWord + 1} {
		h := diamondHall()
		h.Slots[3] = []int64{n}
		if !isWord(n) {
			checkPlain(t, h, code, 9, impl.Run{}, -2)
			continue
		}
		if got := impl.PlainRun(h, code, 5).Said; !slices.Equal(got, []impl.Saying{{Tick: 4, Value: n}}) {
			t.Errorf("of %d is said %v", n, got)
		}
	}
}

// Promise 11 of each known deed, of each two of them side by side, and of known
// codes.
func TestMoreTicksSayMore(t *testing.T) {
	plays := []string{}
	for _, first := range knownDeeds() {
		plays = append(plays, first.text)
		for _, second := range knownDeeds() {
			plays = append(plays, first.text+" "+second.text)
		}
	}
	for _, k := range knownCodes() {
		plays = append(plays, k.play)
	}
	for _, play := range plays {
		code := playCode(play)
		checkAllTicks(t, hallOf(diamond, []int64{2, 0, 1, 3}, fourSlots()), code, 0, 1, 2, 5, 11, 30, 31, 100)
		checkAllTicks(t, hallOf("11/01", []int64{1}, [][]int64{{0, 3}}), code, 0, 3, 17, 60)
	}
}

// A tally tells how many are said in many runs, and how often each Code is come
// to (-2 where the Run is zero).
type tally struct {
	said  int
	codes map[int64]int
}

func (n *tally) count(h impl.Hall, code []impl.Op, ticks int64) {
	run := impl.PlainRun(h, code, ticks)
	n.said += len(run.Said)
	if impl.EndOf(h, code, ticks) == -2 {
		n.codes[-2]++
		return
	}
	n.codes[run.Core.Code]++
}

func (n *tally) check(t *testing.T, said int, each int) {
	t.Helper()
	if n.said < said {
		t.Errorf("%d are said", n.said)
	}
	for code := range int64(5) {
		if n.codes[code] < each || n.codes[-2] < each {
			t.Errorf("the Codes are %v", n.codes)
		}
	}
}

func TestManyRunsOfPlays(t *testing.T) {
	m, n := newMaker(11), tally{codes: map[int64]int{}}
	for plays := 0; plays < 3000; {
		l := m.deeds(1+m.Intn(8), 5)
		if !playByRule(l).is {
			continue
		}
		plays++
		h, code := m.hall(), impl.CodeOf(l)
		few := m.number(0, 1, 2, 5, 10, 20)
		checkAllTicks(t, h, code, few, few+m.number(0, 1, 2, 5, 10, 200), 600)
		n.count(h, code, 600)
	}
	n.check(t, 3000, 50)
}

// Whatever Hall and code, also those that are none; by the rule of the player,
// too.
func TestManyRunsByTheRule(t *testing.T) {
	m, n := newMaker(1111), tally{codes: map[int64]int{}}
	for range 25000 {
		h, code := m.hall(), m.code()
		if len(code) < 10 {
			// With words ahead it is less often bad at once.
			code = append(slices.Repeat([]impl.Op{push(m.number(0, 1, 3))}, m.Intn(8)), code...)
		}
		few := m.number(0, 1, 2, 3, 5, 8, 12)
		more := few + m.number(0, 1, 2, 3, 30)
		checkAllTicks(t, h, code, few, more)
		if len(code) < 20 {
			want, end := plainBy(stepByRule, h, code, more)
			checkPlain(t, h, code, more, want, end)
		}
		n.count(h, code, more)
	}
	n.check(t, 1500, 50)
}

func checkValues(t *testing.T, said []impl.Saying, g int64, want ...int64) {
	t.Helper()
	if got := impl.ValuesAt(said, g); !slices.Equal(got, want) {
		t.Errorf("ValuesAt(%.200v, %d) = %.200v, want %.200v", said, g, got, want)
	}
}

func TestValuesAt(t *testing.T) {
	for _, g := range aroundLimits() {
		checkValues(t, nil, g)
		checkValues(t, []impl.Saying{}, g)
	}
	said := sayingsOf("2:0:7 5:1:8 6:0:7 9:3:-5 10:1:8 11:0:-2 12:3:0 13:0:7")
	for _, g := range aroundLimits() {
		switch g {
		case 0:
			checkValues(t, said, g, 7, 7, -2, 7)
		case 1:
			checkValues(t, said, g, 8, 8)
		case 3:
			checkValues(t, said, g, -5, 0)
		default:
			checkValues(t, said, g)
		}
	}
	checkValues(t, sayingsOf("1:2:0"), 2, 0)
	checkValues(t, sayingsOf("1:2:0"), 0)
	checkValues(t, sayingsOf("0:1:0 0:1:0 0:1:0"), 1, 0, 0, 0)
	checkValues(t, slices.Repeat(sayingsOf("4:2:9"), 100000), 2, slices.Repeat([]int64{9}, 100000)...)
	checkValues(t, slices.Repeat(sayingsOf("4:2:9"), 100000), 1)
}

// Nothing is told of Sayings that are made by hand, nor of gates that are not
// there: the Values are those that stand at just that gate.
func TestValuesAtOfSayingsMadeByHand(t *testing.T) {
	said := []impl.Saying{}
	for k, g := range aroundLimits() {
		said = append(said, impl.Saying{Tick: -g, Gate: g, Value: int64(k)}, impl.Saying{Tick: 3001, Gate: g, Value: math.MinInt64 + int64(k)})
	}
	for k, g := range aroundLimits() {
		want := []int64{}
		for j, other := range aroundLimits() {
			if other == g {
				want = append(want, int64(j), math.MinInt64+int64(j))
			}
		}
		if len(want) < 2 {
			t.Fatalf("nothing at gate %d, place %d", g, k)
		}
		checkValues(t, said, g, want...)
	}
	checkValues(t, []impl.Saying{{Gate: -1, Value: 4}, {Gate: 0, Value: 5}, {Gate: 4, Value: 6}}, -1, 4)
	checkValues(t, []impl.Saying{{Gate: -1, Value: 4}, {Gate: 0, Value: 5}, {Gate: 4, Value: 6}}, 4, 6)
	checkValues(t, []impl.Saying{{Gate: math.MinInt64, Value: math.MaxInt64}, {Gate: math.MaxInt64, Value: math.MinInt64}}, math.MinInt64, math.MaxInt64)
	checkValues(t, []impl.Saying{{Gate: math.MinInt64, Value: math.MaxInt64}, {Gate: math.MaxInt64, Value: math.MinInt64}}, math.MaxInt64, math.MinInt64)
	// In the order of the list, whatever the ticks.
	checkValues(t, sayingsOf("9:1:3 2:1:1 5:1:2 5:0:7 -4:1:9"), 1, 3, 1, 2, 9)
}

func checkBegins(t *testing.T, a []int64, b []int64, want bool) {
	t.Helper()
	if got := impl.Begins(a, b); got != want {
		t.Errorf("Begins(%.200v, %.200v) = %v, want %v", a, b, got, want)
	}
}

func TestBegins(t *testing.T) {
	for _, nothing := range [][]int64{nil, {}, []int64{5, 6}[:0]} {
		for _, other := range [][]int64{nil, {}, []int64{7, 8}[:0]} {
			checkBegins(t, nothing, other, true)
		}
		for _, l := range [][]int64{{0}, {5}, {5, 6}, {math.MinInt64}, make([]int64, 1000)} {
			checkBegins(t, nothing, l, true)
			checkBegins(t, l, nothing, false)
		}
	}
	long := []int64{}
	for k := range int64(300) {
		long = append(long, k*k-7)
	}
	for size := range 301 {
		l := long[:size]
		checkBegins(t, l, long, true)
		checkBegins(t, slices.Clone(l), long, true)
		checkBegins(t, long, l, size == 300)
		checkBegins(t, l, l, true)
		checkBegins(t, append(slices.Clone(l), 0), l, false)
		checkBegins(t, l, append(slices.Clone(l), 0), true)
		if size > 0 {
			checkBegins(t, l, l[1:], false)
			checkBegins(t, l[1:], l, size == 1)
		}
	}
}

// Lists of up to six items that part at one place, at each end and between.
func TestBeginsOfListsThatPart(t *testing.T) {
	whole := []int64{4, 4, -1, math.MaxInt64, math.MinInt64, 0}
	for a := range 7 {
		for b := range 7 {
			checkBegins(t, whole[:a], slices.Clone(whole[:b]), a <= b)
			for at := range a {
				for _, other := range []int64{5, -4, 1 << 32, 4 + 1<<32, math.MinInt64 + 1, math.MaxInt64 - 1} {
					one := slices.Clone(whole[:a])
					one[at] = other
					checkBegins(t, one, whole[:b], false)
					checkBegins(t, whole[:b], one, at >= b)
				}
			}
		}
	}
	checkBegins(t, []int64{1, 2}, []int64{2, 1}, false)
	checkBegins(t, []int64{1, 1, 2}, []int64{1, 2, 2}, false)
	checkBegins(t, []int64{2}, []int64{1, 2}, false)
	checkBegins(t, []int64{0}, []int64{0, 0, 0}, true)
	checkBegins(t, []int64{0, 0, 0}, []int64{0}, false)
	// What lies in the spare room is no part of a list.
	room := []int64{1, 2, 3}
	checkBegins(t, room[:3], room[:2], false)
	checkBegins(t, room[:2], []int64{1, 2, 9}, true)
	checkBegins(t, []int64{1, 2, 3}, room[:2], false)
}

// Each two lists of up to four items of three kinds, as words of digits.
func TestBeginsOfEachTwoShortLists(t *testing.T) {
	words := []string{}
	var grow func(word string)
	grow = func(word string) {
		words = append(words, word)
		for _, digit := range []string{"0", "1", "2"} {
			if len(word) < 4 {
				grow(word + digit)
			}
		}
	}
	grow("")
	for _, a := range words {
		for _, b := range words {
			checkBegins(t, digitsOf(a), digitsOf(b), strings.HasPrefix(b, a))
		}
	}
}

// A call of PlainRun, all its lists with room behind them.
type runCall struct {
	hall impl.Hall
	code []impl.Op
	all  func() string
}

func runInRoom(h impl.Hall, code []impl.Op) runCall {
	hall, hallAll := hallInRoom(h)
	ops, opRoom := inRoom(code, stop())
	return runCall{hall, ops, func() string { return hallAll() + fmt.Sprint(opRoom) }}
}

func runsToKeep() []runCall {
	calls := []runCall{}
	for _, k := range knownEnds() {
		calls = append(calls, runInRoom(hallOf("11/01", []int64{0, 1}, twoSlots()), k.code))
	}
	for _, h := range hallsToKeep() {
		for _, play := range []string{"in x 0 out 0 x out 0 + x 1 set y 3 stop", "while 1 [ out 0 9 in x 0 in y 1 ]"} {
			calls = append(calls, runInRoom(h, playCode(play)))
		}
		calls = append(calls, runInRoom(h, noCodes()[0]), runInRoom(h, []impl.Op{push(1), in("x", 0), push(2), out(0), goTo(1)}))
	}
	return calls
}

func spoilRun(run impl.Run) {
	spoilCore(run.Core)
	fill(run.Said, impl.Saying{Tick: -77, Gate: 0, Value: -77})
}

func TestWhatIsHandedToARunStays(t *testing.T) {
	for _, call := range runsToKeep() {
		before := call.all()
		for _, ticks := range []int64{0, 1, 2, 7, 40, 3001, -1} {
			want, _ := plainBy(impl.Stepped, call.hall, call.code, ticks)
			first, second := impl.PlainRun(call.hall, call.code, ticks), impl.PlainRun(call.hall, call.code, ticks)
			impl.EndOf(call.hall, call.code, ticks)
			spoilRun(first)
			third := impl.PlainRun(call.hall, call.code, ticks)
			if !runsAlike(second, want) || !runsAlike(third, want) {
				t.Errorf("%.200s: other answers of %d ticks are %.200v and %.200v, want %.200v", before, ticks, second, third, want)
			}
			if after := call.all(); after != before {
				t.Fatalf("what was handed in was %.300s and became %.300s", before, after)
			}
		}
	}
	if c := impl.NewCore(); !coresAlike(c, impl.Core{Reads: []int64{0, 0, 0, 0}}) {
		t.Errorf("NewCore is %v", c)
	}
}

// What was handed in may change behind an answer: that stays as it was.
func TestRunsStay(t *testing.T) {
	for _, call := range runsToKeep() {
		ticks := int64(9)
		want, _ := plainBy(impl.Stepped, call.hall, call.code, ticks)
		got := impl.PlainRun(call.hall, call.code, ticks)
		spoilSlots(call.hall.Slots)
		spoil(call.hall.Gates)
		spoil(call.hall.Order.Ups)
		fill(call.code, impl.Op{Kind: -77})
		if !runsAlike(got, want) {
			t.Errorf("an answer became %.200v, want %.200v", got, want)
		}
	}
}

func TestListsOfARunShareNothing(t *testing.T) {
	for _, call := range runsToKeep() {
		for _, ticks := range []int64{0, 1, 3, 9} {
			want, _ := plainBy(impl.Stepped, call.hall, call.code, ticks)
			pile := impl.PlainRun(call.hall, call.code, ticks)
			spoil(pile.Core.Pile)
			pile.Core.Pile = want.Core.Pile
			reads := impl.PlainRun(call.hall, call.code, ticks)
			spoil(reads.Core.Reads)
			reads.Core.Reads = want.Core.Reads
			if !runsAlike(pile, want) || !runsAlike(reads, want) {
				t.Errorf("the Pile spoilt it is %.200v, the Reads spoilt %.200v, want %.200v", pile, reads, want)
			}
		}
	}
}

func TestValuesAreNewMemory(t *testing.T) {
	known := sayingsOf("2:0:7 5:1:8 6:0:7 9:3:-5 10:1:8")
	said, room := inRoom(known, impl.Saying{Gate: 1, Value: -99})
	before := fmt.Sprint(room)
	for _, g := range gatesToAsk() {
		want := impl.ValuesAt(known, g)
		first, second := impl.ValuesAt(said, g), impl.ValuesAt(said, g)
		spoil(first)
		if third := impl.ValuesAt(said, g); !slices.Equal(second, want) || !slices.Equal(third, want) {
			t.Errorf("ValuesAt(%v, %d): other answers are %v and %v, want %v", said, g, second, third, want)
		}
		if after := fmt.Sprint(room); after != before {
			t.Fatalf("what was handed in was %s and became %s", before, after)
		}
	}
	checkValues(t, said, 1, 8, 8)
	kept := impl.ValuesAt(said, 1)
	fill(said, impl.Saying{Gate: 1, Value: -77})
	if !slices.Equal(kept, []int64{8, 8}) {
		t.Errorf("an answer became %v", kept)
	}
}

func TestListsHandedToBeginsStay(t *testing.T) {
	for _, b := range [][]int64{{}, {1}, {1, 2}, {1, 2, 3}, {2, 1}} {
		for _, a := range [][]int64{{}, {1}, {1, 2}, {1, 2, 3, 4}} {
			one, oneRoom := withSpareRoom(a)
			other, otherRoom := withSpareRoom(b)
			before := fmt.Sprint(oneRoom, otherRoom)
			impl.Begins(one, other)
			impl.Begins(other, one)
			if after := fmt.Sprint(oneRoom, otherRoom); after != before {
				t.Errorf("what was handed in was %s and became %s", before, after)
			}
		}
	}
}

package tests

import (
	"maps"
	"math"
	"slices"
	"strconv"
	"strings"
	"testing"

	"loop.example/g00533/impl"
)

// noted is what is met on going through deeds by the rule.
type noted struct {
	names   map[string]bool
	gates   map[int64]bool
	deepest int
}

func nothingNoted() *noted { return &noted{names: map[string]bool{}, gates: map[int64]bool{}} }

// Each of these answers the place behind, or -1. They call themselves for what
// lies within, apart from the way the program goes.
func (n *noted) sign(l []string, at int64, want string) int64 {
	if at < 0 || at >= int64(len(l)) || l[at] != want {
		return -1
	}
	return at + 1
}

func (n *noted) name(l []string, at int64) int64 {
	if at < 0 || at >= int64(len(l)) || !writtenAsName.MatchString(l[at]) {
		return -1
	}
	n.names[l[at]] = true
	return at + 1
}

func (n *noted) gate(l []string, at int64) int64 {
	if at < 0 || at >= int64(len(l)) || !slices.Contains([]string{"0", "1", "2", "3"}, l[at]) {
		return -1
	}
	n.gates[int64(l[at][0]-'0')] = true
	return at + 1
}

func (n *noted) sum(l []string, at int64) int64 {
	sum := toldByRule(l, at, nil)
	for _, name := range sum.names {
		n.names[name] = true
	}
	return sum.end
}

func (n *noted) list(l []string, at int64, depth int) int64 {
	at = n.sign(l, at, "[")
	if at < 0 {
		return -1
	}
	n.deepest = max(n.deepest, depth+1)
	for n.sign(l, at, "]") < 0 {
		at = n.deed(l, at, depth+1)
		if at < 0 {
			return -1
		}
	}
	return at + 1
}

func (n *noted) deed(l []string, at int64, depth int) int64 {
	if at < 0 || at >= int64(len(l)) {
		return -1
	}
	switch l[at] {
	case "set":
		return n.sum(l, n.name(l, at+1))
	case "in":
		return n.gate(l, n.name(l, at+1))
	case "out":
		return n.sum(l, n.gate(l, at+1))
	case "stop":
		return at + 1
	case "if":
		return n.list(l, n.list(l, n.sum(l, at+1), depth), depth)
	case "while":
		return n.list(l, n.sum(l, at+1), depth)
	}
	return -1
}

func deedEndByRule(l []string, at int64) int64 { return nothingNoted().deed(l, at, 0) }

// play is all that the chapter tells of a list of signs.
type play struct {
	is    bool
	names []string
	gates []int64
}

func playByRule(l []string) play {
	n := nothingNoted()
	for at := int64(0); at < int64(len(l)); {
		at = n.deed(l, at, 0)
		if at < 0 {
			return play{}
		}
	}
	if len(l) > 100 || n.deepest > 5 || len(n.names) > 12 {
		return play{}
	}
	return play{true, slices.Sorted(maps.Keys(n.names)), slices.Sorted(maps.Keys(n.gates))}
}

func checkDeedEnd(t *testing.T, l []string, at int64, want int64) {
	t.Helper()
	if got := impl.DeedEnd(l, at); got != want {
		t.Errorf("DeedEnd(%.80q, %d) = %d, want %d", l, at, got, want)
	}
}

// checkPlay is of a list without blanks in its signs, so that the text of it is
// of no other list.
func checkPlay(t *testing.T, l []string, want play) {
	t.Helper()
	if got := impl.PlayOk(l); got != want.is {
		t.Errorf("PlayOk(%.80q) = %v, want %v", l, got, want.is)
	}
	if got := impl.AllNames(l); !slices.Equal(got, want.names) {
		t.Errorf("AllNames(%.80q) = %q, want %q", l, got, want.names)
	}
	if got := impl.GatesIn(l); !slices.Equal(got, want.gates) {
		t.Errorf("GatesIn(%.80q) = %v, want %v", l, got, want.gates)
	}
	text, shown := strings.Join(l, " "), ""
	if want.is {
		shown = text
	}
	if got := impl.ShowPlay(l); got != shown {
		t.Errorf("ShowPlay(%.80q) = %.80q, want %.80q", l, got, shown)
	}
	// A list of the empty text alone is the one whose text is also that of
	// another list.
	if !slices.Equal(l, []string{""}) {
		checkRead(t, text, l, want.is)
	}
}

func checkRead(t *testing.T, text string, want []string, right bool) {
	t.Helper()
	got, is := impl.ReadPlay(text)
	if !right {
		want = nil
	}
	if is != right || !slices.Equal(got, want) {
		t.Errorf("ReadPlay(%.80q) = %q, %v, want %q, %v", text, got, is, want, right)
	}
	if again := impl.ShowPlay(got); right && again != text {
		t.Errorf("ShowPlay of ReadPlay(%.80q) is %.80q", text, again)
	}
}

type knownDeed struct {
	text  string
	names string
	gates string
	depth int
}

func knownDeeds() []knownDeed {
	return []knownDeed{
		{"stop", "", "", 0},
		{"set x 0", "x", "", 0}, {"set x y", "x y", "", 0}, {"set y x", "x y", "", 0}, {"set x x", "x", "", 0}, {"set x -2147483648", "x", "", 0},
		{"set x + y z", "x y z", "", 0}, {"set abcdef * - p 2 / q + 7 r", "abcdef p q r", "", 0}, {"set x < = a b - c * d / e + f 1", "a b c d e f x", "", 0},
		{"in x 0", "x", "0", 0}, {"in x 1", "x", "1", 0}, {"in y 2", "y", "2", 0}, {"in zzzzzz 3", "zzzzzz", "3", 0},
		{"out 0 0", "", "0", 0}, {"out 3 2147483647", "", "3", 0}, {"out 1 x", "x", "1", 0}, {"out 2 4", "", "2", 0}, {"out 0 - x 3", "x", "0", 0},
		{"out 3 + + b a + a c", "a b c", "3", 0},
		{"if x [ ] [ ]", "x", "", 1}, {"if 0 [ stop ] [ ]", "", "", 1}, {"if 1 [ ] [ stop ]", "", "", 1}, {"if < x 3 [ stop ] [ stop ]", "x", "", 1},
		{"if x [ in y 1 out 0 y ] [ set z 4 out 2 z stop ]", "x y z", "012", 1},
		{"while x [ ]", "x", "", 1}, {"while 1 [ stop ]", "", "", 1}, {"while < x y [ in x 3 ]", "x y", "3", 1},
		{"while < x 3 [ out 0 x set x + x 1 ]", "x", "0", 1}, {"while = * a b c [ stop stop stop ]", "a b c", "", 1},
		{"while x [ while y [ ] ]", "x y", "", 2}, {"while x [ if y [ ] [ ] ]", "x y", "", 2},
		{"if x [ while y [ ] ] [ ]", "x y", "", 2}, {"if x [ ] [ while y [ ] ]", "x y", "", 2},
		{"if x [ if y [ out 3 p ] [ out 2 q ] ] [ if z [ out 1 r ] [ out 0 s ] ]", "p q r s x y z", "0123", 2},
		{"while x [ stop if y [ ] [ while z [ in w 2 ] ] set v 1 ]", "v w x y z", "2", 3},
		{"while a [ while b [ while c [ while d [ ] ] ] ]", "a b c d", "", 4}, {"if a [ ] [ if b [ ] [ if c [ ] [ if d [ ] [ stop ] ] ] ]", "a b c d", "", 4},
		{"if a [ if b [ if c [ if d [ stop ] [ ] ] [ ] ] [ ] ] [ ]", "a b c d", "", 4},
		// The words of the deeds are names too, where a name may stand.
		{"set set set", "set", "", 0}, {"set in out", "in out", "", 0}, {"in in 0", "in", "0", 0}, {"in stop 1", "stop", "1", 0}, {"out 0 out", "out", "0", 0}, {"out 0 stop", "stop", "0", 0},
		{"set if + while if", "if while", "", 0}, {"if if [ ] [ ]", "if", "", 1}, {"while while [ ]", "while", "", 1}, {"while stop [ stop ]", "stop", "", 1},
		{"if = in out [ set set set in in 3 ] [ out 0 out stop ]", "in out set", "03", 1},
	}
}

func wantOf(k knownDeed) play { return play{true, strings.Fields(k.names), digitsOf(k.gates)} }

func TestKnownDeeds(t *testing.T) {
	for _, k := range knownDeeds() {
		signs := strings.Fields(k.text)
		checkDeedEnd(t, signs, 0, int64(len(signs)))
		checkPlay(t, signs, wantOf(k))
		byRule := nothingNoted()
		end := byRule.deed(signs, 0, 0)
		if end != int64(len(signs)) || byRule.deepest != k.depth {
			t.Errorf("%s: the rule tells the end %d and the depth %d, want %d and %d", k.text, end, byRule.deepest, len(signs), k.depth)
		}
	}
}

func TestTheEmptyPlay(t *testing.T) {
	for _, l := range [][]string{nil, {}, times(3, "stop")[:0]} {
		checkPlay(t, l, play{is: true})
		checkDeedEnd(t, l, 0, -1)
	}
	checkPlay(t, []string{""}, play{})
	checkPlay(t, []string{"", ""}, play{})
}

func TestLimitsOfPlaysAreNamed(t *testing.T) {
	if impl.MaxSigns != 100 || impl.MaxDepth != 5 || impl.MaxBoxes != 12 {
		t.Errorf("MaxSigns, MaxDepth and MaxBoxes are %d, %d and %d", impl.MaxSigns, impl.MaxDepth, impl.MaxBoxes)
	}
}

func TestWhatStandsAroundADeedDoesNotMatter(t *testing.T) {
	around := [][]string{
		{}, {"stop"}, {"set", "x"}, {"["}, {"]"}, {"]", "["}, {"[", "]"}, {"if", "x"}, {"while", "x", "["}, {"+"}, {"+", "1"}, {"x"}, {"7"}, {""}, {"NO", "99"},
	}
	for _, k := range knownDeeds() {
		for _, ahead := range around {
			for _, behind := range around {
				signs, at := strings.Fields(k.text), int64(len(ahead))
				checkDeedEnd(t, slices.Concat(ahead, signs, behind), at, at+int64(len(signs)))
			}
		}
	}
}

func TestBeginningsOfDeedsAreNoDeed(t *testing.T) {
	for _, k := range knownDeeds() {
		signs := strings.Fields(k.text)
		for size := range signs {
			checkDeedEnd(t, signs[:size], 0, -1)
			checkDeedEnd(t, append([]string{"stop", "["}, signs[:size]...), 2, -1)
			// A sign that is none ends it as the end of the list does.
			checkDeedEnd(t, append(slices.Clone(signs[:size]), "NO"), 0, -1)
			if size > 0 {
				checkPlay(t, signs[:size], play{})
				checkPlay(t, append([]string{"stop"}, signs[:size]...), play{})
			}
		}
	}
}

func noDeeds() []string {
	return []string{
		// Words that are no deed's, and signs that begin none.
		"what", "x", "0", "+", "+ 1 2", "[", "]", "[ ]", "[ stop ]", "] stop [", "Set x 1", "SET x 1", "STOP", "Stop", "stops", "sto", "sett x 1", "se x 1", "inn x 1", "ou 1 x", "iff x [ ] [ ]", "whil x [ ]", "else", "\x00", "é", "\xff",
		// No name where one must be.
		"set 1 1", "set -1 1", "set + 1", "set + 1 2", "set X 1", "set abcdefg 1", "set a1 1", "set [ 1", "set é 1", "in 0 0", "in 0 x", "in + 0", "in X 0", "in abcdefg 0", "in [ 0", "in / 1 2",
		// No gate where one must be.
		"in x y", "in x 4", "in x 5", "in x 9", "in x -1", "in x 00", "in x 01", "in x 10", "in x 03", "in x 33", "in x 3x", "in x +1", "in x -0", "in x 256", "in x 4294967296", "in x 18446744073709551616", "in x [", "in x +", "in x x 0", "in x + 0 1", "in x ٣",
		"out x 1", "out 4 1", "out 5 x", "out 9 x", "out -1 1", "out 00 1", "out 01 1", "out 10 1", "out 33 1", "out -0 1", "out +1 1", "out 256 1", "out 4294967297 1", "out out 1", "out [ 1", "out + 1 2", "out x 0",
		// No sum where one must be.
		"set x", "set x [", "set x ]", "set x X", "set x +", "set x + 1", "set x + 1 [", "set x 01", "set x 2147483648", "set x abcdefg", "out 1", "out 1 [", "out 1 -", "out 1 - x", "out 1 -0", "out 1 -2147483649",
		"if", "if [ ] [ ]", "if + [ ] [ ]", "if + 1 [ ] [ ]", "if X [ ] [ ]", "while", "while [ ]", "while + 1 [ ]", "while 00 [ ]", "while X [ ]",
		// A [ or ] too few, or elsewhere.
		"if x", "if x [", "if x ]", "if x [ ]", "if x [ stop ]", "if x [ ] [", "if x [ ] ]", "if x [ ] stop", "if x [ ] stop [ ]", "if x [ stop [ ]", "if x stop ] [ ]", "if x [ stop ] stop ]", "if x stop stop", "if x stop", "if x ] [", "if x ] [ ] [", "if x ] ] [ ]", "if x [ [ ]", "if x [ [ ] ]", "if x [ [ ] ] [ ]", "if x [ ] [ [ ] ]", "if x [ ] else [ ]",
		"while x", "while x [", "while x ]", "while x stop", "while x stop ]", "while x [ stop", "while x ] [", "while x ] stop [", "while x [ [ ] ]", "while x [ while y [ ]", "while x [ if y [ ] ]", "while x [ if y [ ] ] [ ]", "while x [ if y [ ] [ ]",
		// Not right within.
		"while x [ y ]", "while x [ in y 4 ]", "while x [ set 1 1 ]", "while x [ stop y ]", "while x [ stop stop in ]", "if x [ y ] [ ]", "if x [ ] [ y ]", "if x [ out 4 1 ] [ ]", "if x [ ] [ out 4 1 ]", "if x [ ] [ stop set y ]", "while x [ set y + 1 ]", "while x [ if y [ z ] [ ] ]",
	}
}

func TestWhatIsNoDeed(t *testing.T) {
	for _, text := range noDeeds() {
		signs := strings.Split(text, " ")
		checkDeedEnd(t, signs, 0, -1)
		checkDeedEnd(t, append([]string{"stop"}, signs...), 1, -1)
		checkPlay(t, signs, play{})
		checkPlay(t, append([]string{"stop"}, signs...), play{})
		checkPlay(t, slices.Concat([]string{"while", "x", "["}, signs, []string{"]"}), play{})
		checkPlay(t, slices.Concat([]string{"if", "x", "["}, signs, []string{"]", "[", "]"}), play{})
		checkPlay(t, slices.Concat([]string{"if", "x", "[", "]", "["}, signs, []string{"]"}), play{})
	}
}

// Something between deeds, or behind the last one.
func TestDeedsWithSomethingBetween(t *testing.T) {
	for _, k := range knownDeeds() {
		signs := strings.Fields(k.text)
		for _, other := range []string{"[", "]", "x", "0", "+", "", "what", ";", "if", "set", "[ ]", "stop ]", "[ stop", "[ stop ]"} {
			more := strings.Split(other, " ")
			checkPlay(t, slices.Concat(signs, more), play{})
			checkPlay(t, slices.Concat(more, signs), playByRule(slices.Concat(more, signs)))
			checkPlay(t, slices.Concat([]string{"stop"}, more, []string{"stop"}), play{})
			checkPlay(t, slices.Concat([]string{"in", "x", "0"}, more, signs), playByRule(slices.Concat([]string{"in", "x", "0"}, more, signs)))
		}
	}
}

func signsToTry() []string {
	return []string{"set", "in", "out", "stop", "if", "while", "[", "]", "x", "ab", "0", "3", "4", "10", "-1", "+", "/", "", "NO", "abcdefg"}
}

// Each known deed with a sign less, another one, or one more at each place.
func TestDeedsOneSignAway(t *testing.T) {
	check := func(l []string) {
		checkDeedEnd(t, l, 0, deedEndByRule(l, 0))
		checkPlay(t, l, playByRule(l))
	}
	for _, k := range knownDeeds() {
		signs := strings.Fields(k.text)
		for at := range len(signs) + 1 {
			for _, sign := range signsToTry() {
				check(slices.Insert(slices.Clone(signs), at, sign))
				if at < len(signs) {
					check(slices.Replace(slices.Clone(signs), at, at+1, sign))
				}
			}
			if at < len(signs) {
				check(slices.Delete(slices.Clone(signs), at, at+1))
			}
		}
	}
}

func checkEveryList(t *testing.T, alphabet []string, most int) {
	t.Helper()
	var grow func(l []string)
	grow = func(l []string) {
		for at := int64(-1); at <= int64(len(l)); at++ {
			checkDeedEnd(t, l, at, deedEndByRule(l, at))
		}
		checkPlay(t, l, playByRule(l))
		if len(l) < most && !t.Failed() {
			for _, sign := range alphabet {
				grow(append(slices.Clone(l), sign))
			}
		}
	}
	grow(nil)
}

func TestEveryShortListAsAPlay(t *testing.T) {
	checkEveryList(t, []string{"set", "in", "out", "stop", "while", "x", "y", "2", "4", "-", "[", "]"}, 4)
	checkEveryList(t, []string{"if", "while", "stop", "[", "]"}, 7)
	checkEveryList(t, []string{"set", "out", "a", "1", "+"}, 6)
}

func TestPlacesThatBeginNoDeed(t *testing.T) {
	for _, l := range [][]string{nil, {}, {"stop"}, {"stop", "stop"}, {"set", "x", "1"}, {"while", "x", "[", "]"}} {
		size := int64(len(l))
		places := []int64{
			-1, -2, -3, -size, -size - 1, size, size + 1, size + 2, 1000, math.MinInt64, math.MinInt64 + 1, math.MinInt64 + size,
			math.MaxInt64 - size, math.MaxInt64 - 1, math.MaxInt64, 1 << 32, -1 << 32, 1<<32 + 1, 1<<63 - 1<<32,
		}
		for _, at := range append(places, aroundLimits()...) {
			if at < 0 || at >= size {
				checkDeedEnd(t, l, at, -1)
			}
		}
	}
}

// A place within a deed begins one where a deed's word stands as a name.
func TestDeedsThatBeginWithinOthers(t *testing.T) {
	cases := []struct {
		text string
		at   int64
		want int64
	}{
		{"in x 1 while < x 3 [ out 0 x set x + x 1 ] if x [ stop ] [ ]", 0, 3},
		{"in x 1 while < x 3 [ out 0 x set x + x 1 ] if x [ stop ] [ ]", 3, 17},
		{"in x 1 while < x 3 [ out 0 x set x + x 1 ] if x [ stop ] [ ]", 8, 11},
		{"in x 1 while < x 3 [ out 0 x set x + x 1 ] if x [ stop ] [ ]", 11, 16},
		{"in x 1 while < x 3 [ out 0 x set x + x 1 ] if x [ stop ] [ ]", 17, 24},
		{"in x 1 while < x 3 [ out 0 x set x + x 1 ] if x [ stop ] [ ]", 20, 21},
		{"in x 1 while < x 3 [ out 0 x set x + x 1 ] if x [ stop ] [ ]", 21, -1},
		{"set set set set 1", 0, 3}, {"set set set set 1", 1, 4}, {"set set set set 1", 2, 5}, {"set set set set 1", 3, -1},
		{"set stop stop", 0, 3}, {"set stop stop", 1, 2}, {"set stop stop", 2, 3},
		{"in in 1", 1, -1}, {"in in in 1", 1, 4}, {"in in in 1", 0, -1}, {"out 1 out 2 out 3", 0, 3}, {"out 1 out 2 out 3", 2, 5}, {"out 1 out 2 out 3", 4, -1},
	}
	for _, c := range cases {
		checkDeedEnd(t, strings.Fields(c.text), c.at, c.want)
	}
}

// Whatever the names: other ones in their stead move no end.
func TestNamesDoNotMatterToTheEnd(t *testing.T) {
	for _, k := range knownDeeds() {
		signs := strings.Fields(k.text)
		for _, other := range []string{"a", "q", "abcdef", "zzzzzz", "set", "in", "out", "stop", "if", "while"} {
			changed, distinct := slices.Clone(signs), slices.Clone(signs)
			for at, sign := range signs {
				// Those of one byte are no deeds' words.
				if len(sign) == 1 && writtenAsName.MatchString(sign) {
					changed[at] = other
					distinct[at] = "n" + strings.Repeat(string(rune('a'+at%26)), 1+at/26)
				}
			}
			checkDeedEnd(t, changed, 0, int64(len(signs)))
			checkDeedEnd(t, distinct, 0, int64(len(signs)))
		}
	}
}

func times(count int, text string) []string {
	return slices.Repeat(strings.Fields(text), count)
}

// wideSum has that many signs, which must be odd, and the name x alone.
func wideSum(signs int) []string { return append(times(signs/2, "+ x"), "1") }

func TestPlaysOfAHundredSignsAndOneMore(t *testing.T) {
	right := map[string][]string{
		"stops":        times(100, "stop"),
		"ins":          append(times(33, "in x 0"), "stop"),
		"one sum":      append(append([]string{"set", "x"}, wideSum(97)...), "stop"),
		"two sums":     slices.Concat([]string{"out", "0"}, wideSum(47), []string{"set", "x"}, wideSum(49)),
		"one while":    slices.Concat([]string{"while", "x", "["}, times(96, "stop"), []string{"]"}),
		"one if":       slices.Concat([]string{"if", "x", "["}, times(50, "stop"), []string{"]", "["}, times(44, "stop"), []string{"]"}),
		"its sum":      slices.Concat([]string{"stop", "if"}, wideSum(93), []string{"[", "]", "[", "]", "stop"}),
		"empty whiles": times(25, "while x [ ]"),
	}
	for name, signs := range right {
		if len(signs) != 100 {
			t.Fatalf("%s: %d signs", name, len(signs))
		}
		want := playByRule(signs)
		if !want.is {
			t.Fatalf("%s: no play by the rule", name)
		}
		checkPlay(t, signs, want)
		checkPlay(t, append(slices.Clone(signs), "stop"), play{})
		checkPlay(t, append([]string{"stop"}, signs...), play{})
		checkPlay(t, append(slices.Clone(signs), signs...), play{})
		checkPlay(t, append(slices.Clone(signs), "NO"), play{})
	}
	for count := 95; count < 400; count++ {
		checkPlay(t, times(count, "stop"), play{is: count <= 100})
		// The limit is a play's alone.
		checkDeedEnd(t, slices.Concat([]string{"set", "x"}, wideSum(2*count+1)), 0, int64(2*count+3))
		checkDeedEnd(t, slices.Concat([]string{"while", "x", "["}, times(count, "stop"), []string{"]"}), 0, int64(count+4))
		checkDeedEnd(t, times(count, "stop"), int64(count-1), int64(count))
	}
	checkPlay(t, append([]string{"set", "x"}, wideSum(99)...), play{})
}

// nested lays deeds in [ ] of these kinds, the outermost one first: w is of
// while, 1 and 2 are the first and the second of if.
func nested(kinds string, within string) []string {
	text := within
	for _, kind := range slices.Backward([]byte(kinds)) {
		switch kind {
		case 'w':
			text = "while x [ " + text + " ]"
		case '1':
			text = "if x [ " + text + " ] [ ]"
		case '2':
			text = "if x [ ] [ " + text + " ]"
		}
	}
	return strings.Fields(text)
}

func TestPlaysFiveDeepAndSixDeep(t *testing.T) {
	var grow func(kinds string)
	grow = func(kinds string) {
		for _, within := range []string{"", "stop", "out 3 x set x 1"} {
			signs, want := nested(kinds, within), play{is: len(kinds) <= 5}
			if want.is && slices.Contains(signs, "x") {
				want.names = []string{"x"}
			}
			if want.is && slices.Contains(signs, "out") {
				want.gates = []int64{3}
			}
			checkPlay(t, signs, want)
			checkPlay(t, append([]string{"stop"}, signs...), want)
			checkPlay(t, append(slices.Clone(signs), "stop"), want)
			if kinds != "" {
				checkDeedEnd(t, signs, 0, int64(len(signs)))
			}
		}
		if len(kinds) < 7 {
			for _, kind := range []string{"w", "1", "2"} {
				grow(kinds + kind)
			}
		}
	}
	grow("")
}

// Where it is deep matters not, nor does how many [ ] lie side by side.
func TestDepthIsOfTheDeepestAlone(t *testing.T) {
	for _, kinds := range []string{"wwwww", "11111", "22222", "w1w2w"} {
		deep, deeper := nested(kinds, "stop"), nested("w"+kinds, "stop")
		flat := strings.Fields("while y [ ] if y [ ] [ ] while y [ stop ]")
		names := play{true, []string{"x", "y"}, nil}
		checkPlay(t, slices.Concat(flat, deep), names)
		checkPlay(t, slices.Concat(deep, flat), names)
		checkPlay(t, slices.Concat(flat, deep, flat), names)
		checkPlay(t, slices.Concat(flat, deeper), play{})
		checkPlay(t, slices.Concat(deeper, flat), play{})
		checkPlay(t, slices.Concat(flat, deeper, flat), play{})
	}
	checkPlay(t, slices.Concat(nested("wwwww", ""), nested("22222", ""), nested("w", "")), play{true, []string{"x"}, nil})
	checkPlay(t, nested("wwww", "while y [ ] if z [ ] [ ] while y [ ]"), play{true, []string{"x", "y", "z"}, nil})
	checkPlay(t, nested("wwww", "while y [ ] if z [ ] [ stop while y [ ] ]"), play{})
}

func letters(count int) []string {
	names := []string{}
	for k := range count {
		names = append(names, string(rune('a'+k)))
	}
	return names
}

// In each of these all names it is given are met, each in one place or several.
func playsOfNames(names []string) map[string][]string {
	set, in, out, sums := []string{}, []string{}, []string{}, []string{}
	for k, name := range names {
		set = append(set, "set", name, "1")
		in = append(in, "in", name, strconv.Itoa(k%4))
		out = append(out, "out", "0", name)
		sums = append(sums, "+", name)
	}
	sum := append(sums, "1")
	half := len(names) / 2
	return map[string][]string{
		"in set":           set,
		"in in":            in,
		"in sums of out":   out,
		"in one sum":       append([]string{"out", "0"}, sum...),
		"in the sum of if": slices.Concat([]string{"if"}, sum, []string{"[", "]", "[", "]"}),
		"in that of while": slices.Concat([]string{"while"}, sum, []string{"[", "]"}),
		"half and half":    slices.Concat(set[:3*half], in[3*half:]),
		"within [ ]":       slices.Concat([]string{"if", "1", "["}, set[:3*half], []string{"]", "["}, out[3*half:], []string{"]"}),
		"turned round":     slices.Concat(out[3*half:], in[:3*half]),
		"twice":            slices.Concat(set, in),
	}
}

func TestPlaysOfTwelveNamesAndThirteen(t *testing.T) {
	for count := range 16 {
		names := letters(count)
		for name, signs := range playsOfNames(names) {
			want := play{is: count <= 12}
			if want.is {
				want.names, want.gates = names, playByRule(signs).gates
			}
			if got := playByRule(signs); got.is != want.is || !slices.Equal(got.names, want.names) {
				t.Errorf("%d names %s: the rule tells %v, want %v", count, name, got, want)
			}
			checkPlay(t, signs, want)
		}
	}
	// One more name, by each way to have one.
	twelve := strings.Fields("set a b in c 0 out 1 + d e if f [ set g h ] [ in i 2 ] while j [ set k l ]")
	checkPlay(t, twelve, play{true, letters(12), []int64{0, 1, 2}})
	for _, more := range []string{"set m 1", "set a m", "in m 0", "out 0 m", "out 0 + a m", "if m [ ] [ ]", "while m [ ]", "if a [ set m 1 ] [ ]", "if a [ ] [ out 0 m ]", "while a [ in m 1 ]"} {
		checkPlay(t, slices.Concat(twelve, strings.Fields(more)), play{})
		checkPlay(t, slices.Concat(strings.Fields(more), twelve), play{})
		known := strings.ReplaceAll(more, "m", "l")
		checkPlay(t, slices.Concat(twelve, strings.Fields(known)), play{true, letters(12), []int64{0, 1, 2}})
	}
	// The words of the deeds count where they are names, and nowhere else.
	checkPlay(t, slices.Concat(twelve, []string{"stop"}), play{true, letters(12), []int64{0, 1, 2}})
	checkPlay(t, slices.Concat(twelve, []string{"out", "0", "stop"}), play{})
	checkPlay(t, slices.Concat(twelve, []string{"in", "in", "0"}), play{})
	checkPlay(t, strings.Fields("set set in set out stop set if while"), play{true, []string{"if", "in", "out", "set", "stop", "while"}, nil})
}

// The limit on names is a play's alone, too.
func TestDeedsOfManyNamesEnd(t *testing.T) {
	names := letters(26)
	sum := []string{}
	for _, name := range names {
		sum = append(sum, "-", name)
	}
	signs := slices.Concat([]string{"while"}, sum, []string{"zz", "[", "set", "ab"}, sum, []string{"0", "]"})
	checkDeedEnd(t, signs, 0, int64(len(signs)))
	checkPlay(t, signs, play{})
}

// readPlayByRule cuts a text at each blank by itself.
func readPlayByRule(text string) ([]string, bool) {
	if text == "" {
		return nil, true
	}
	signs := []string{""}
	for _, b := range []byte(text) {
		if b == ' ' {
			signs = append(signs, "")
		} else {
			signs[len(signs)-1] += string([]byte{b})
		}
	}
	return signs, playByRule(signs).is
}

func TestTextsThatAreNoPlay(t *testing.T) {
	texts := []string{
		" ", "  ", "\n", "\t", "-", "\x00", "stop ", " stop", " stop ", "stop  stop", "stop  ", "stop\n", "\nstop", "stop\nstop", "stop\tstop", "\tstop", "stop\r", "stop;stop", "stop; stop", "stop,stop", "stopstop", "stop stop\n",
		"set x  1", "set  x 1", "setx 1", "set x1", "set\tx\t1", "set x 1 ", " set x 1", "set x 1\n", "set x\u00a01", "set x 1\x00", "set x 1 2", "set x y z",
		"in x 4", "in x 01", "out x 1", "set x", "if x [ ]", "while x [", "stop ]", "what", "while x[ ]", "while x [] ", "while x []", "while x [  ]", "if x [ ][ ]", "if x [ ] [ ] [ ]", "if x [ ] [ ] ]", "Stop", "stop .", "ѕtop",
	}
	for _, text := range texts {
		checkRead(t, text, nil, false)
	}
}

// Each known text with a byte less, another one, or one more at each place.
func TestTextsOneByteAway(t *testing.T) {
	check := func(b []byte) {
		want, right := readPlayByRule(string(b))
		checkRead(t, string(b), want, right)
	}
	for _, k := range knownDeeds() {
		text := []byte(k.text)
		for at := range len(text) + 1 {
			for _, other := range []byte(" x[]0139-+\n\t\x00S\xff") {
				check(slices.Insert(slices.Clone(text), at, other))
				if at < len(text) {
					check(slices.Replace(slices.Clone(text), at, at+1, other))
				}
			}
			if at < len(text) {
				check(slices.Delete(slices.Clone(text), at, at+1))
			}
		}
	}
}

func TestBlanksAroundPlays(t *testing.T) {
	for _, k := range knownDeeds() {
		for _, text := range []string{" " + k.text, k.text + " ", " " + k.text + " ", k.text + "  stop", "stop  " + k.text, strings.ReplaceAll(k.text, " ", "  ") + " "} {
			checkRead(t, text, nil, false)
		}
		for _, other := range []string{"\n", "\t", "", "\u00a0", "/", "_"} {
			if text := strings.ReplaceAll(k.text, " ", other); text != k.text {
				checkRead(t, text, nil, false)
			}
		}
	}
}

func TestEveryShortText(t *testing.T) {
	var grow func(text string, most int, bytes string)
	grow = func(text string, most int, bytes string) {
		want, right := readPlayByRule(text)
		checkRead(t, text, want, right)
		if len(text) < most && !t.Failed() {
			for _, b := range []byte(bytes) {
				grow(text+string([]byte{b}), most, bytes)
			}
		}
	}
	grow("", 6, "in 03")
	grow("stop", 9, "stop ")
	grow("while ", 12, "x[] ")
}

// A blank in a sign: such a list is no play, though its text is one's.
func TestSignsWithBlanksAreNone(t *testing.T) {
	for _, l := range [][]string{{"set x 1"}, {"set x", "1"}, {"set", "x 1"}, {"stop stop"}, {"stop "}, {" stop"}, {"stop", " "}, {"while", "x", "[ ]"}, {"out", "0", "+ 1 2"}} {
		if impl.PlayOk(l) || impl.ShowPlay(l) != "" || len(impl.AllNames(l)) != 0 || len(impl.GatesIn(l)) != 0 {
			t.Errorf("%q is taken as a play", l)
		}
		if l[0] != "stop" && impl.DeedEnd(l, 0) != -1 {
			t.Errorf("DeedEnd(%q, 0) = %d, want -1", l, impl.DeedEnd(l, 0))
		}
	}
}

// both joins two rising lists to one that rises.
func both[T int64 | string](a []T, b []T) []T {
	return slices.Compact(slices.Sorted(slices.Values(slices.Concat(a, b))))
}

// Promise 7: two plays side by side are one, as long as the limits are kept; so
// they are within [ ].
func TestTwoPlaysSideBySideAreOne(t *testing.T) {
	right, wrong := 0, 0
	for _, first := range knownDeeds() {
		for _, second := range knownDeeds() {
			a, b, p, q := strings.Fields(first.text), strings.Fields(second.text), wantOf(first), wantOf(second)
			names, gates, depth := both(p.names, q.names), both(p.gates, q.gates), max(first.depth, second.depth)
			check := func(l []string, names []string, depth int) {
				want := play{}
				if len(names) <= 12 && depth <= 5 && len(l) <= 100 {
					want = play{true, names, gates}
					right++
				} else {
					wrong++
				}
				checkPlay(t, l, want)
			}
			check(slices.Concat(a, b), names, depth)
			check(slices.Concat(b, a), names, depth)
			check(slices.Concat(a, b, a), names, depth)
			check(slices.Concat([]string{"while", "m", "["}, a, b, []string{"]"}), both(names, []string{"m"}), depth+1)
			check(slices.Concat([]string{"if", "-", "m", "n", "["}, a, []string{"]", "["}, b, []string{"]"}), both(names, []string{"m", "n"}), depth+1)
			check(slices.Concat([]string{"if", "m", "[", "]", "[", "while", "n", "["}, a, []string{"]"}, b, []string{"]"}), both(names, []string{"m", "n"}), max(first.depth+2, second.depth+1))
			// Each ends where it ended by itself.
			checkDeedEnd(t, slices.Concat(a, b), 0, int64(len(a)))
			checkDeedEnd(t, slices.Concat(a, b), int64(len(a)), int64(len(a)+len(b)))
		}
	}
	if right == 0 || wrong == 0 {
		t.Errorf("%d are plays and %d are none", right, wrong)
	}
}

func TestTheTextsOfTwoPlaysSideBySide(t *testing.T) {
	for _, first := range knownDeeds() {
		for _, second := range knownDeeds() {
			a, b := strings.Fields(first.text), strings.Fields(second.text)
			want := slices.Concat(a, b)
			checkRead(t, impl.ShowPlay(a)+" "+impl.ShowPlay(b), want, playByRule(want).is)
		}
	}
}

func TestNamesAndGatesRise(t *testing.T) {
	cases := []struct {
		text  string
		names string
		gates string
	}{
		{"in c 3 in b 2 in a 1 in d 0", "a b c d", "0123"}, {"in a 3 in a 3 out 3 a", "a", "3"}, {"out 2 1 out 0 1 out 2 1 out 0 1", "", "02"},
		{"out 3 1 in x 1", "x", "13"}, {"out 1 3 out 1 2 out 1 0", "", "1"}, {"set x 3 set y 0", "x y", ""},
		{"set b 1 set ab 1 set a 1 set aa 1 set ba 1", "a aa ab b ba", ""}, {"set z + y + x + y z", "x y z", ""},
		{"if c [ in b 3 ] [ in a 1 ]", "a b c", "13"}, {"while c [ while b [ out 2 a ] out 0 d ]", "a b c d", "02"},
		{"stop in x 2 stop out 0 y", "x y", "02"}, {"in in 0 out 1 in set set set", "in set", "01"}, {"stop stop", "", ""},
	}
	for _, c := range cases {
		checkPlay(t, strings.Fields(c.text), play{true, strings.Fields(c.names), digitsOf(c.gates)})
	}
	// Every set of gates, named in each order of in and out.
	for set := range 16 {
		ins, outs, want := []string{}, []string{}, []int64{}
		for gate := range 4 {
			if set>>gate&1 == 1 {
				ins = append([]string{"in", "x", strconv.Itoa(gate)}, ins...)
				outs = append(outs, "out", strconv.Itoa(gate), "7")
				want = append(want, int64(gate))
			}
		}
		checkPlay(t, outs, play{is: true, gates: want})
		for _, l := range [][]string{ins, slices.Concat(outs, ins), slices.Concat(ins, outs), slices.Concat([]string{"while", "x", "["}, ins, outs, []string{"]"})} {
			checkPlay(t, l, play{true, playByRule(l).names, want})
		}
	}
}

// Deeds deeper than calls could go, or with so many signs, have an end all the
// same; they are no play.
func TestDeedsOfVeryManySigns(t *testing.T) {
	const depth = 200000
	lists := map[string][]string{
		"whiles":  slices.Concat(times(depth, "while x ["), []string{"stop"}, times(depth, "]")),
		"firsts":  slices.Concat(times(depth, "if x ["), times(depth, "] [ ]")),
		"seconds": slices.Concat(times(depth, "if x [ ] ["), []string{"in", "x", "3"}, times(depth, "]")),
		"stops":   slices.Concat([]string{"while", "1", "["}, times(depth, "stop"), []string{"]"}),
		"a sum":   append([]string{"set", "x"}, leaningLeft(depth, "x")...),
		"two":     slices.Concat([]string{"if"}, leaningRight(depth, "x"), []string{"[", "out", "0"}, leaningLeft(depth, "1"), []string{"]", "[", "]"}),
	}
	for name, l := range lists {
		end := int64(len(l))
		for _, more := range [][]string{nil, {"]"}, {"stop", "["}} {
			if got := impl.DeedEnd(append(slices.Clip(l), more...), 0); got != end {
				t.Errorf("%s: DeedEnd is %d, want %d", name, got, end)
			}
		}
		if got := impl.DeedEnd(l[:end-1], 0); got != -1 {
			t.Errorf("%s cut short: DeedEnd is %d, want -1", name, got)
		}
		text := strings.Join(l, " ")
		read, is := impl.ReadPlay(text)
		if impl.PlayOk(l) || is || len(read) != 0 || impl.ShowPlay(l) != "" || len(impl.AllNames(l)) != 0 || len(impl.GatesIn(l)) != 0 {
			t.Errorf("%s: it is taken as a play", name)
		}
	}
	for _, text := range []string{strings.Repeat(" ", depth), strings.Repeat("x", depth), "set x " + strings.Repeat("1", depth)} {
		checkRead(t, text, nil, false)
	}
}

func TestSignsHandedToPlaysStay(t *testing.T) {
	texts := noDeeds()
	for _, k := range knownDeeds() {
		texts = append(texts, k.text, k.text+" "+k.text, k.text+" ]")
	}
	texts = append(texts, strings.Join(times(100, "stop"), " "), strings.Join(times(101, "stop"), " "))
	for _, text := range texts {
		signs, room := inRoom(strings.Split(text, " "), "spare")
		before := slices.Clone(room)
		for at := int64(-1); at <= int64(len(signs)); at++ {
			impl.DeedEnd(signs, at)
		}
		impl.PlayOk(signs)
		impl.ShowPlay(signs)
		fill(impl.AllNames(signs), "spoilt")
		fill(impl.GatesIn(signs), -77)
		if !slices.Equal(room, before) {
			t.Errorf("the signs %q and the room behind them became %q", before, room)
		}
	}
}

func TestSpareRoomIsNoSignOfAPlay(t *testing.T) {
	list := strings.Fields("while x [ in y 1 ] stop")
	for size := 1; size < 7; size++ {
		checkDeedEnd(t, list[:size], 0, -1)
		checkPlay(t, list[:size], play{})
	}
	checkPlay(t, list[:0], play{is: true})
	checkPlay(t, list[:7], play{true, []string{"x", "y"}, []int64{1}})
	checkDeedEnd(t, list[:7], 7, -1)
	checkDeedEnd(t, list, 7, 8)
	many := times(101, "stop")
	checkPlay(t, many[:100], play{is: true})
	checkPlay(t, append(many[:99:99], "NO")[:99], play{is: true})
}

func TestAnswersOfPlaysAreNewMemory(t *testing.T) {
	for _, k := range knownDeeds() {
		signs, want := strings.Fields(k.text), wantOf(k)
		names, gates := impl.AllNames(signs), impl.GatesIn(signs)
		read, _ := impl.ReadPlay(k.text)
		otherNames, otherGates := impl.AllNames(signs), impl.GatesIn(signs)
		otherRead, _ := impl.ReadPlay(k.text)
		fill(names[:cap(names)], "spoilt")
		fill(gates[:cap(gates)], -77)
		fill(read[:cap(read)], "spoilt")
		if !slices.Equal(otherNames, want.names) || !slices.Equal(otherGates, want.gates) || !slices.Equal(otherRead, signs) {
			t.Errorf("%s: other answers became %q, %v and %q", k.text, otherNames, otherGates, otherRead)
		}
		checkPlay(t, signs, want)
	}
	// What is answered of no play, and of the empty one, too.
	for _, text := range []string{"", "what"} {
		read, right := impl.ReadPlay(text)
		fill(read[:cap(read)], "spoilt")
		if again, is := impl.ReadPlay(text); is != right || len(again) != 0 {
			t.Errorf("ReadPlay(%q) became %q, %v", text, again, is)
		}
	}
}

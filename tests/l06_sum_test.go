package tests

import (
	"maps"
	"math"
	"regexp"
	"slices"
	"strconv"
	"strings"
	"testing"

	"loop.example/g00533/impl"
)

// opSigns stand in the order of the ops' numbers.
const opSigns = "+-*/<="

// told is all that the chapter tells of a place of a list.
type told struct {
	end   int64
	names []string
	fails bool
	value int64
	is    bool
}

func noSum() told { return told{end: -1} }

var writtenAsName = regexp.MustCompile(`^[a-z]{1,6}$`)

func boxesOf(values map[string]int64) []impl.Box {
	boxes := []impl.Box{}
	for _, name := range slices.Sorted(maps.Keys(values)) {
		boxes = append(boxes, impl.Box{Name: name, Value: values[name]})
	}
	return boxes
}

// toldByRule goes down into each sum by itself, apart from the way the program
// goes.
func toldByRule(l []string, at int64, values map[string]int64) told {
	if at < 0 || at >= int64(len(l)) {
		return noSum()
	}
	sign := l[at]
	if n, is := readByRule(sign); is {
		return told{end: at + 1, value: n, is: true}
	}
	if writtenAsName.MatchString(sign) {
		return told{end: at + 1, names: []string{sign}, value: values[sign], is: true}
	}
	if len(sign) != 1 || !strings.Contains(opSigns, sign) {
		return noSum()
	}
	first := toldByRule(l, at+1, values)
	if first.end < 0 {
		return noSum()
	}
	second := toldByRule(l, first.end, values)
	if second.end < 0 {
		return noSum()
	}
	both := map[string]bool{}
	for _, name := range slices.Concat(first.names, second.names) {
		both[name] = true
	}
	whole := told{end: second.end, names: slices.Sorted(maps.Keys(both)), fails: sign == "/" || first.fails || second.fails}
	if first.is && second.is {
		op := int64(strings.Index(opSigns, sign)) + 1
		whole.value, whole.is = didByRule(op, first.value, second.value)
	}
	return whole
}

func checkSum(t *testing.T, l []string, at int64, boxes []impl.Box, want told) {
	t.Helper()
	if got := impl.SumEnd(l, at); got != want.end {
		t.Errorf("SumEnd(%.60q, %d) = %d, want %d", l, at, got, want.end)
	}
	if got := impl.NamesIn(l, at); !slices.Equal(got, want.names) {
		t.Errorf("NamesIn(%.60q, %d) = %q, want %q", l, at, got, want.names)
	}
	if got := impl.MayFail(l, at); got != want.fails {
		t.Errorf("MayFail(%.60q, %d) = %v, want %v", l, at, got, want.fails)
	}
	checkSumOf(t, l, at, boxes, want.value, want.is)
}

func checkSumOf(t *testing.T, l []string, at int64, boxes []impl.Box, want int64, right bool) {
	t.Helper()
	if got, is := impl.SumOf(l, at, boxes); got != want || is != right {
		t.Errorf("SumOf(%.60q, %d, %v) = %d, %v, want %d, %v", l, at, boxes, got, is, want, right)
	}
}

type knownSum struct {
	text  string
	names string
	fails bool
	value int64
	is    bool
}

func knownValues() map[string]int64 {
	return map[string]int64{"a": -4, "big": greatestWord, "low": leastWord, "nought": 0, "x": 100, "y": 5, "zzzzzz": 7}
}

// knownSums are with the boxes of knownValues; no other name has one.
func knownSums() []knownSum {
	return []knownSum{
		{"0", "", false, 0, true}, {"7", "", false, 7, true}, {"-7", "", false, -7, true},
		{"2147483647", "", false, greatestWord, true}, {"-2147483648", "", false, leastWord, true},
		{"x", "x", false, 100, true}, {"zzzzzz", "zzzzzz", false, 7, true}, {"nought", "nought", false, 0, true},
		{"none", "none", false, 0, true}, {"set", "set", false, 0, true}, {"while", "while", false, 0, true},
		{"+ 2 3", "", false, 5, true}, {"- 2 3", "", false, -1, true}, {"* 2 3", "", false, 6, true},
		{"/ 7 2", "", true, 3, true}, {"< 2 3", "", false, 1, true}, {"= 2 3", "", false, 0, true},
		{"- 3 2", "", false, 1, true}, {"/ 2 7", "", true, 0, true}, {"< 3 2", "", false, 0, true}, {"= 3 3", "", false, 1, true},
		{"- x y", "x y", false, 95, true}, {"- y x", "x y", false, -95, true}, {"/ x y", "x y", true, 20, true}, {"/ y x", "x y", true, 0, true},
		{"< x y", "x y", false, 0, true}, {"< y x", "x y", false, 1, true}, {"- x x", "x", false, 0, true}, {"= none 0", "none", false, 1, true},
		{"+ big 1", "big", false, leastWord, true}, {"- low 1", "low", false, greatestWord, true}, {"/ low -1", "low", true, leastWord, true},
		{"- - 10 3 2", "", false, 5, true}, {"- 10 - 3 2", "", false, 9, true},
		{"+ x * y -3", "x y", false, 85, true}, {"* + x y -3", "x y", false, -315, true},
		{"- - 1 2 - 3 5", "", false, 1, true}, {"- / 9 2 / 9 4", "", true, 2, true},
		{"= < a 0 < 0 y", "a y", false, 1, true}, {"* + + + 1 2 3 4 5", "", false, 50, true}, {"* 5 + 4 + 3 + 2 1", "", false, 50, true},
		{"/ 1 0", "", true, 0, false}, {"/ 0 0", "", true, 0, false}, {"/ x none", "none x", true, 0, false}, {"/ x nought", "nought x", true, 0, false},
		{"/ 0 x", "x", true, 0, true}, {"/ x - y 5", "x y", true, 0, false}, {"/ x < x y", "x y", true, 0, false}, {"/ x / y x", "x y", true, 0, false},
		{"* 0 / 1 0", "", true, 0, false}, {"* / 1 0 0", "", true, 0, false}, {"= / x 0 / x 0", "x", true, 0, false},
		{"+ 1 - 2 * 3 < 4 = 5 / 6 nought", "nought", true, 0, false}, {"+ - * < = / 6 nought 5 4 3 2 1", "nought", true, 0, false},
		{"+ 1 - 2 * 3 < 4 = 5 / 6 x", "x", true, 3, true}, {"+ - * < = / 6 x 0 4 3 2 1", "x", true, 2, true},
		{"+ b + a + c + a b", "a b c", false, -8, true}, {"+ + + + c a b a a", "a b c", false, -12, true},
		{"+ ab + b + aa a", "a aa ab b", false, -4, true},
	}
}

// toldOf is of the signs of its text, from place 0.
func toldOf(k knownSum) told {
	signs := strings.Fields(k.text)
	return told{end: int64(len(signs)), names: strings.Fields(k.names), fails: k.fails, value: k.value, is: k.is}
}

func TestKnownSums(t *testing.T) {
	boxes := boxesOf(knownValues())
	for _, k := range knownSums() {
		signs, want := strings.Fields(k.text), toldOf(k)
		checkSum(t, signs, 0, boxes, want)
		byRule := toldByRule(signs, 0, knownValues())
		if byRule.end != want.end || !slices.Equal(byRule.names, want.names) || byRule.fails != want.fails || byRule.value != want.value || byRule.is != want.is {
			t.Errorf("%s: the rule tells %v, want %v", k.text, byRule, want)
		}
	}
}

// Nothing around a sum, be it right or wrong, is of that sum.
func TestWhatStandsAroundASumDoesNotMatter(t *testing.T) {
	boxes := boxesOf(knownValues())
	around := [][]string{
		{}, {"/"}, {"/", "1"}, {"/", "1", "0"}, {"zz"}, {"+", "qq"}, {"9"}, {"["}, {"]", "["}, {"NO"}, {""}, {"", "/", "x", "y"},
	}
	for _, k := range knownSums() {
		for _, ahead := range around {
			for _, behind := range around {
				want, at := toldOf(k), int64(len(ahead))
				want.end += at
				checkSum(t, slices.Concat(ahead, strings.Fields(k.text), behind), at, boxes, want)
			}
		}
	}
}

func TestBeginningsOfSumsAreNoSum(t *testing.T) {
	boxes := boxesOf(knownValues())
	for _, k := range knownSums() {
		signs := strings.Fields(k.text)
		for size := range signs {
			checkSum(t, signs[:size], 0, boxes, noSum())
			checkSum(t, append([]string{"1", "/"}, signs[:size]...), 2, boxes, noSum())
			// A sign that is none ends it as the end of the list does.
			checkSum(t, append(slices.Clone(signs[:size]), "["), 0, boxes, noSum())
		}
	}
}

func noSigns() []string {
	return []string{
		"", " ", "[", "]", "(", "{", "X", "A", "xY", "Xy", "abcdefg", "abcdefgh", "a1", "1a", "a b", "x ", " x", "a\x00", "é", "\xff",
		"00", "01", "-0", "-01", "+1", "007", "1 ", " 1", "1.0", "1e3", "0x1", "--1", "1-", "-x",
		"2147483648", "-2147483649", "4294967296", "9223372036854775808", "-9223372036854775809", "99999999999999999999",
		"++", "--", "**", "//", "<<", "==", "<=", "+ ", " +", "/\x00", "+-*/<=", "-*", "%", "!", ">", "&", "|", "^", ",", ";", ":", ".", "_", "\n", "÷", "−",
	}
}

func TestSignsThatAreNone(t *testing.T) {
	boxes := boxesOf(knownValues())
	for _, none := range noSigns() {
		checkSum(t, []string{none}, 0, boxes, noSum())
		checkSum(t, []string{none, "1", "2"}, 0, boxes, noSum())
		for _, op := range strings.Split(opSigns, "") {
			checkSum(t, []string{op, none, "2"}, 0, boxes, noSum())
			checkSum(t, []string{op, "x", none}, 0, boxes, noSum())
			checkSum(t, []string{op, op, "x", none, "y"}, 0, boxes, noSum())
			checkSum(t, []string{op, "y", op, none, "x"}, 0, boxes, noSum())
			checkSum(t, []string{op, none, "1", "2"}, 0, boxes, noSum())
		}
	}
}

// Each text of one byte, and each byte behind another one.
func TestEachByteAsASign(t *testing.T) {
	for _, ahead := range []string{"", "a", "1", "-", "+", "/"} {
		for b := range 256 {
			list := []string{ahead + string([]byte{byte(b)}), "12", "5", "q"}
			checkSum(t, list, 0, nil, toldByRule(list, 0, nil))
			list = append([]string{"<", "4"}, list...)
			checkSum(t, list, 0, nil, toldByRule(list, 0, nil))
		}
	}
}

func TestPlacesThatAreNotThere(t *testing.T) {
	lists := [][]string{nil, {}, {"x"}, {"+", "x", "y"}, {"/", "1", "x", "7", "y"}}
	boxes := boxesOf(knownValues())
	for _, l := range lists {
		size := int64(len(l))
		places := []int64{
			-1, -2, -3, -size, -size - 1, size, size + 1, size + 2, 1000, math.MinInt64, math.MinInt64 + 1, math.MinInt64 + size,
			math.MaxInt64 - size, math.MaxInt64 - 1, math.MaxInt64, 1 << 32, -1 << 32, 1<<32 + 1, 1<<63 - 1<<32,
		}
		for _, at := range append(places, aroundLimits()...) {
			if at < 0 || at >= size {
				checkSum(t, l, at, boxes, noSum())
			}
		}
	}
}

// Promise 6 of each list of up to five signs, at each place and at one past
// each end.
func TestEveryShortListOfSigns(t *testing.T) {
	values := map[string]int64{"x": -6, "z": 4}
	boxes := boxesOf(values)
	var grow func(l []string)
	grow = func(l []string) {
		for at := int64(-1); at <= int64(len(l)); at++ {
			checkSum(t, l, at, boxes, toldByRule(l, at, values))
		}
		if len(l) < 5 {
			for _, sign := range []string{"-", "/", "<", "x", "yy", "0", "3", "["} {
				grow(append(slices.Clone(l), sign))
			}
		}
	}
	grow(nil)
}

// Promise 6: a sum comes to Did of what its two come to, and ends where its
// second one does.
func TestASumComesToWhatItsTwoComeTo(t *testing.T) {
	boxes := boxesOf(knownValues())
	for _, first := range knownSums() {
		for _, second := range knownSums() {
			for k, sign := range strings.Split(opSigns, "") {
				list := strings.Fields(sign + " " + first.text + " " + second.text)
				want := told{end: int64(len(list)), fails: sign == "/" || first.fails || second.fails}
				want.names = slices.Compact(slices.Sorted(slices.Values(strings.Fields(first.names + " " + second.names))))
				if first.is && second.is {
					want.value, want.is = didByRule(int64(k)+1, first.value, second.value)
				}
				checkSum(t, list, 0, boxes, want)
			}
		}
	}
}

// Each op with each two words: both written, both in boxes, and one of each.
func TestSumsOfEachTwoWords(t *testing.T) {
	for k, sign := range strings.Split(opSigns, "") {
		for _, a := range wordsToTry() {
			for _, b := range wordsToTry() {
				want, right := didByRule(int64(k)+1, a, b)
				first, second := strconv.FormatInt(a, 10), strconv.FormatInt(b, 10)
				boxes := []impl.Box{{Name: "p", Value: a}, {Name: "q", Value: b}}
				checkSumOf(t, []string{sign, first, second}, 0, nil, want, right)
				checkSumOf(t, []string{sign, "p", "q"}, 0, boxes, want, right)
				checkSumOf(t, []string{sign, first, "q"}, 0, boxes, want, right)
				checkSumOf(t, []string{sign, "p", second}, 0, boxes, want, right)
			}
		}
	}
}

// Promise 6: only the names of a sum matter to it.
func TestOnlyTheNamesOfASumMatter(t *testing.T) {
	values := knownValues()
	for _, k := range knownSums() {
		signs, names := strings.Fields(k.text), strings.Fields(k.names)
		own := map[string]int64{}
		for _, name := range names {
			if value, is := values[name]; is {
				own[name] = value
			}
		}
		checkSumOf(t, signs, 0, boxesOf(own), k.value, k.is)
		for _, other := range []string{"aaaaaa", "b", "m", "nou", "w", "xx", "zzzzzy"} {
			for _, value := range []int64{0, 1, -1, leastWord, greatestWord} {
				with := maps.Clone(own)
				with["q"], with["stop"] = value, -value/2
				if !slices.Contains(names, other) {
					with[other] = value
				}
				checkSumOf(t, signs, 0, boxesOf(with), k.value, k.is)
			}
		}
	}
	// And these do.
	for _, value := range []int64{0, 1, -1, leastWord, greatestWord} {
		checkSumOf(t, []string{"-", "0", "-", "0", "x"}, 0, []impl.Box{{Name: "a", Value: 3}, {Name: "x", Value: value}}, value, true)
	}
}

func manyBoxes(count int) []impl.Box {
	boxes := []impl.Box{}
	for k := range count {
		boxes = append(boxes, impl.Box{Name: string(rune('a' + k)), Value: int64(k)})
	}
	return boxes
}

func rightBoxes() map[string][]impl.Box {
	return map[string][]impl.Box{
		"nil":              nil,
		"none":             {},
		"one":              manyBoxes(1),
		"eleven":           manyBoxes(11),
		"twelve":           manyBoxes(12),
		"the least word":   {{Name: "a", Value: leastWord}},
		"the greatest one": {{Name: "a"}, {Name: "b", Value: greatestWord}},
		"six bytes":        {{Name: "aaaaaa"}, {Name: "zzzzzz"}},
		"a beginning":      {{Name: "a"}, {Name: "aa"}, {Name: "ab"}, {Name: "b"}},
		"one Value":        {{Name: "p", Value: 3}, {Name: "q", Value: 3}},
		"falling Values":   {{Name: "p", Value: 3}, {Name: "q", Value: -3}},
		"the deeds' words": {{Name: "if"}, {Name: "in"}, {Name: "out"}, {Name: "set"}, {Name: "stop"}, {Name: "while"}},
	}
}

func wrongBoxes() map[string][]impl.Box {
	wrong := map[string][]impl.Box{
		"thirteen":              manyBoxes(13),
		"twenty-six":            manyBoxes(26),
		"falling":               {{Name: "b", Value: 1}, {Name: "a", Value: 2}},
		"falling at the end":    {{Name: "a"}, {Name: "c"}, {Name: "b"}},
		"falling below a third": {{Name: "b"}, {Name: "c"}, {Name: "a"}},
		"shorter but greater":   {{Name: "b"}, {Name: "aa"}},
		"the whole ahead":       {{Name: "aa"}, {Name: "a"}},
		"two alike":             {{Name: "a", Value: 1}, {Name: "a", Value: 1}},
		"two alike at the end":  {{Name: "a"}, {Name: "b", Value: 1}, {Name: "b", Value: 2}},
		"one past the greatest": {{Name: "a", Value: greatestWord + 1}},
		"one past the least":    {{Name: "a", Value: leastWord - 1}},
		"past it at the end":    {{Name: "a"}, {Name: "b"}, {Name: "c", Value: greatestWord + 1}},
		"the ends of int64":     {{Name: "a", Value: math.MinInt64}, {Name: "b", Value: math.MaxInt64}},
		"low bits a word":       {{Name: "a", Value: 1 << 32}},
	}
	for _, none := range []string{"", "A", "a1", "1", "-", "+", "/", "abcdefg", "a b", "é", "[", "aaaa\x00"} {
		wrong["the Name "+strconv.Quote(none)] = []impl.Box{{Name: none, Value: 6}}
		last := []impl.Box{{Name: "k"}, {Name: none, Value: 6}}
		if none < "k" {
			slices.Reverse(last)
		}
		wrong["rising with the Name "+strconv.Quote(none)] = last
	}
	return wrong
}

func TestBoxesOk(t *testing.T) {
	for name, boxes := range rightBoxes() {
		if !impl.BoxesOk(boxes) {
			t.Errorf("%s: BoxesOk(%v) is false", name, boxes)
		}
	}
	for name, boxes := range wrongBoxes() {
		if impl.BoxesOk(boxes) {
			t.Errorf("%s: BoxesOk(%v) is true", name, boxes)
		}
	}
	for _, n := range wordsToTry() {
		if !impl.BoxesOk([]impl.Box{{Name: "a", Value: n}}) {
			t.Errorf("BoxesOk with the Value %d is false", n)
		}
	}
	for _, n := range noWords() {
		if impl.BoxesOk([]impl.Box{{Name: "a", Value: n}}) {
			t.Errorf("BoxesOk with the Value %d is true", n)
		}
	}
}

// Wrong boxes are refused whatever the sum, even where it has no name.
func TestSumsWithWrongBoxes(t *testing.T) {
	for _, k := range knownSums() {
		signs := strings.Fields(k.text)
		for _, boxes := range wrongBoxes() {
			checkSumOf(t, signs, 0, boxes, 0, false)
		}
	}
	for _, boxes := range rightBoxes() {
		checkSumOf(t, []string{"-", "7", "9"}, 0, boxes, -2, true)
	}
}

func checkValueIn(t *testing.T, boxes []impl.Box, name string, want int64) {
	t.Helper()
	if got := impl.ValueIn(boxes, name); got != want {
		t.Errorf("ValueIn(%v, %.20q) = %d, want %d", boxes, name, got, want)
	}
}

func TestValueInRightBoxes(t *testing.T) {
	for _, boxes := range rightBoxes() {
		for _, box := range boxes {
			checkValueIn(t, boxes, box.Name, box.Value)
			checkSumOf(t, []string{box.Name}, 0, boxes, box.Value, true)
		}
		for _, name := range append(noSigns(), "y", "yy", "bb", "aaaaa", "zzzzz", strings.Repeat("a", 100000)) {
			checkValueIn(t, boxes, name, 0)
		}
	}
}

// Here, too, the Value is that of the Box of that Name; of two it is the first.
func TestValueInWrongBoxes(t *testing.T) {
	for _, boxes := range wrongBoxes() {
		for k, box := range boxes {
			if slices.IndexFunc(boxes, func(b impl.Box) bool { return b.Name == box.Name }) == k {
				checkValueIn(t, boxes, box.Name, box.Value)
			}
		}
		for _, name := range []string{"zz", "B", "\x00", "abcdefgh"} {
			checkValueIn(t, boxes, name, 0)
		}
	}
}

// Of a sum more names may be told than boxes can be.
func TestNamesOfAWideSumRise(t *testing.T) {
	var list, want []string
	for _, first := range "zaqmb" {
		for _, second := range "ycxa" {
			name := string([]rune{first, second})
			list = append(list, "+", name, "+", name)
			want = append(want, name)
		}
	}
	list = append(list, "a", "/", "b")
	want = append(want, "a")
	slices.Sort(want)
	if got := impl.NamesIn(list, 0); !slices.Equal(got, want) {
		t.Errorf("NamesIn(%q, 0) = %q, want %q", list, got, want)
	}
}

// leaningLeft has all its ops ahead of all the rest, leaningRight one ahead of
// each; both come to depth more than last.
func leaningLeft(depth int, last string) []string {
	list := slices.Repeat([]string{"+"}, depth)
	list = append(list, last)
	return append(list, slices.Repeat([]string{"1"}, depth)...)
}

func leaningRight(depth int, last string) []string {
	return append(slices.Repeat([]string{"+", "1"}, depth), last)
}

func TestSumsOfVeryManySigns(t *testing.T) {
	boxes := []impl.Box{{Name: "x", Value: 7}}
	for _, depth := range []int{10000, 200000} {
		for _, lean := range []func(depth int, last string) []string{leaningLeft, leaningRight} {
			end := int64(2*depth + 1)
			list := lean(depth, "x")
			checkSum(t, list, 0, boxes, told{end: end, names: []string{"x"}, value: int64(depth) + 7, is: true})
			checkSum(t, list[:end-1], 0, boxes, noSum())
			checkSum(t, append(list, "/", "y", "0"), 0, boxes, told{end: end, names: []string{"x"}, value: int64(depth) + 7, is: true})
			checkSum(t, lean(depth, "["), 0, boxes, noSum())
			byNought := append([]string{"/", "1"}, lean(depth, strconv.Itoa(-depth))...)
			checkSum(t, byNought, 0, boxes, told{end: end + 2, fails: true})
			checkSum(t, byNought, 2, boxes, told{end: end + 2, is: true})
		}
	}
}

func TestSignsAndBoxesHandedInStay(t *testing.T) {
	boxLists := slices.Collect(maps.Values(wrongBoxes()))
	boxLists = append(boxLists, nil, manyBoxes(12), boxesOf(knownValues()))
	for _, k := range knownSums() {
		signs, signRoom := inRoom(append([]string{"z", "/"}, strings.Fields(k.text)...), "spare")
		signsBefore := slices.Clone(signRoom)
		for _, list := range boxLists {
			boxes, boxRoom := inRoom(list, impl.Box{Name: "spare", Value: -99})
			boxesBefore := slices.Clone(boxRoom)
			impl.BoxesOk(boxes)
			impl.ValueIn(boxes, "x")
			for at := int64(-1); at <= int64(len(signs)); at++ {
				impl.SumEnd(signs, at)
				impl.MayFail(signs, at)
				impl.SumOf(signs, at, boxes)
				// What is handed back is no part of what was handed in, so
				// that writing over it changes none of that.
				fill(impl.NamesIn(signs, at), "spoilt")
			}
			if !slices.Equal(boxRoom, boxesBefore) {
				t.Errorf("%s: the boxes %v and the room behind them became %v", k.text, boxesBefore, boxRoom)
			}
		}
		if !slices.Equal(signRoom, signsBefore) {
			t.Errorf("the signs %q and the room behind them became %q", signsBefore, signRoom)
		}
	}
}

func TestSpareRoomIsNoSignAndNoBox(t *testing.T) {
	list := []string{"+", "x", "/", "y", "0"}
	for size := range list {
		checkSum(t, list[:size], 0, nil, noSum())
	}
	checkSum(t, list[:2], 1, nil, told{end: 2, names: []string{"x"}, is: true})
	checkSum(t, list[:2], 2, nil, noSum())
	boxes := append(manyBoxes(12), impl.Box{Name: "A", Value: math.MaxInt64})
	if !impl.BoxesOk(boxes[:12]) || !impl.BoxesOk(boxes[:0]) || impl.BoxesOk(boxes) {
		t.Error("BoxesOk reads the room behind the boxes")
	}
	checkValueIn(t, boxes[:5], "f", 0)
	checkValueIn(t, boxes[:6], "f", 5)
	checkSumOf(t, []string{"f"}, 0, boxes[:5], 0, true)
	checkSumOf(t, []string{"f"}, 0, boxes[:6], 5, true)
}

func TestNamesInAreNewMemory(t *testing.T) {
	for _, k := range knownSums() {
		signs, want := strings.Fields(k.text), strings.Fields(k.names)
		first, second := impl.NamesIn(signs, 0), impl.NamesIn(signs, 0)
		fill(first, "spoilt")
		if third := impl.NamesIn(signs, 0); !slices.Equal(second, want) || !slices.Equal(third, want) {
			t.Errorf("NamesIn(%q, 0): other answers are %q and %q, want %q", signs, second, third, want)
		}
	}
}

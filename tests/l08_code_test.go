package tests

import (
	"math"
	"slices"
	"strconv"
	"strings"
	"testing"

	"loop.example/g00533/impl"
)

func push(n int64) impl.Op            { return impl.Op{Kind: 1, Number: n} }
func load(name string) impl.Op        { return impl.Op{Kind: 2, Name: name} }
func do(op int64) impl.Op             { return impl.Op{Kind: 3, Number: op} }
func set(name string) impl.Op         { return impl.Op{Kind: 4, Name: name} }
func in(name string, g int64) impl.Op { return impl.Op{Kind: 5, Number: g, Name: name} }
func out(g int64) impl.Op             { return impl.Op{Kind: 6, Number: g} }
func goTo(place int64) impl.Op        { return impl.Op{Kind: 7, Number: place} }
func unless(place int64) impl.Op      { return impl.Op{Kind: 8, Number: place} }
func stop() impl.Op                   { return impl.Op{Kind: 9} }
func end() impl.Op                    { return impl.Op{Kind: 10} }

func TestKindsOfOpsAreNumbered(t *testing.T) {
	kinds := []int64{
		impl.OcPush, impl.OcLoad, impl.OcDo, impl.OcSet, impl.OcIn, impl.OcOut, impl.OcGo, impl.OcUnless, impl.OcStop, impl.OcEnd,
	}
	if !slices.Equal(kinds, []int64{1, 2, 3, 4, 5, 6, 7, 8, 9, 10}) || impl.MaxCode != 300 {
		t.Errorf("the kinds are %v, MaxCode is %d", kinds, impl.MaxCode)
	}
}

// opOkByRule asks each kind by itself, apart from the way the program goes.
func opOkByRule(o impl.Op) bool {
	noName, noNumber := o.Name == "", o.Number == 0
	isName := writtenAsName.MatchString(o.Name)
	within := func(least int64, most int64) bool { return least <= o.Number && o.Number <= most }
	switch o.Kind {
	case 1:
		return noName && within(leastWord, greatestWord)
	case 2, 4:
		return isName && noNumber
	case 3:
		return noName && within(1, 6)
	case 5:
		return isName && within(0, 3)
	case 6:
		return noName && within(0, 3)
	case 7, 8:
		return noName && within(0, 300)
	case 9, 10:
		return noName && noNumber
	}
	return false
}

// opTextByRule is of an Op that is right.
func opTextByRule(o impl.Op) string {
	number := strconv.Itoa(int(o.Number))
	switch o.Kind {
	case 1:
		return "push " + number
	case 2:
		return "load " + o.Name
	case 3:
		return "do " + number
	case 4:
		return "set " + o.Name
	case 5:
		return "in " + o.Name + " " + number
	case 6:
		return "out " + number
	case 7:
		return "go " + number
	case 8:
		return "unless " + number
	case 9:
		return "stop"
	}
	return "end"
}

func codeTextByRule(code []impl.Op) string {
	text := ""
	for k, o := range code {
		if !opOkByRule(o) {
			return ""
		}
		if k > 0 {
			text += "; "
		}
		text += opTextByRule(o)
	}
	return text
}

// An Op is shown by itself where it is right, and else nothing is.
func checkOp(t *testing.T, o impl.Op, want bool) {
	t.Helper()
	if got := impl.OpOk(o); got != want {
		t.Errorf("OpOk(%v) = %v, want %v", o, got, want)
	}
	shown := ""
	if want {
		shown = opTextByRule(o)
	}
	if got := impl.ShowCode([]impl.Op{o}); got != shown {
		t.Errorf("ShowCode of %v alone is %q, want %q", o, got, shown)
	}
}

func TestOpsAtTheEndsOfWhatTheyTell(t *testing.T) {
	cases := []struct {
		kind        int64
		name        string
		least, most int64
	}{
		{1, "", leastWord, greatestWord}, {2, "x", 0, 0}, {3, "", 1, 6}, {4, "x", 0, 0}, {5, "x", 0, 3}, {6, "", 0, 3},
		{7, "", 0, 300}, {8, "", 0, 300}, {9, "", 0, 0}, {10, "", 0, 0},
	}
	for _, c := range cases {
		for _, n := range []int64{c.least, c.most} {
			checkOp(t, impl.Op{Kind: c.kind, Number: n, Name: c.name}, true)
		}
		for _, n := range []int64{c.least - 1, c.most + 1, math.MinInt64, math.MinInt64 + 1, math.MaxInt64 - 1, math.MaxInt64, c.least - 1<<32, c.most + 1<<32} {
			checkOp(t, impl.Op{Kind: c.kind, Number: n, Name: c.name}, false)
		}
	}
	// No op of Did, though nothing else of it is told.
	checkOp(t, do(0), false)
	checkOp(t, impl.Op{}, false)
}

func TestNamesOfOps(t *testing.T) {
	for kind := int64(1); kind <= 10; kind++ {
		named := kind == 2 || kind == 4 || kind == 5
		number := int64(0)
		if kind == 3 {
			number = 1
		}
		checkOp(t, impl.Op{Kind: kind, Number: number}, !named)
		for _, name := range []string{"a", "z", "m", "zz", "abcdef", "zzzzzz", "set", "in", "out", "stop", "if", "while", "push", "end"} {
			checkOp(t, impl.Op{Kind: kind, Number: number, Name: name}, named)
		}
		for _, name := range append(noSigns(), "+", "-", "0", "7", "aaaaaaa", "zzzzzzz", "`", "{", "a`", "a{", strings.Repeat("a", 1000)) {
			checkOp(t, impl.Op{Kind: kind, Number: number, Name: name}, !named && name == "")
		}
	}
}

func kindsToTry() []int64 {
	return []int64{
		math.MinInt64, math.MinInt64 + 1, math.MinInt64 + 5, -1 << 32, -11, -10, -9, -5, -2, -1, 0, 1, 2, 3, 4, 5, 6, 7, 8, 9, 10, 11, 12, 13, 20,
		255, 256, 257, 266, 267, 1<<16 + 1, 1<<32 - 1, 1 << 32, 1<<32 + 1, 1<<32 + 5, 1<<32 + 10, 1<<32 + 11, math.MaxInt64 - 1, math.MaxInt64,
	}
}

func TestOpsOfEachKind(t *testing.T) {
	numbers := slices.Concat(aroundLimits(), wordsToTry(), noWords(), []int64{299, 300, 301, -299, -300, -301, 1<<32 + 300})
	for _, kind := range kindsToTry() {
		for _, number := range numbers {
			for _, name := range []string{"", "x", "abcdef", "abcdefg", "X", "1"} {
				o := impl.Op{Kind: kind, Number: number, Name: name}
				checkOp(t, o, opOkByRule(o))
			}
		}
	}
	for number := int64(-400); number <= 400; number++ {
		checkOp(t, goTo(number), number >= 0 && number <= 300)
		checkOp(t, unless(number), number >= 0 && number <= 300)
		checkOp(t, out(number), number >= 0 && number <= 3)
		checkOp(t, in("x", number), number >= 0 && number <= 3)
		checkOp(t, do(number), number >= 1 && number <= 6)
		checkOp(t, push(number), true)
	}
}

type knownCode struct {
	play string
	code string
}

// knownCodes are shown with the Ops' words; each play by itself.
func knownCodes() []knownCode {
	return []knownCode{
		{"", "end"},
		{"stop", "stop; end"}, {"stop stop", "stop; stop; end"},
		{"set x 5", "push 5; set x; end"}, {"set x -2147483648", "push -2147483648; set x; end"}, {"set x 2147483647", "push 2147483647; set x; end"},
		{"set x y", "load y; set x; end"}, {"set x x", "load x; set x; end"}, {"set x 0", "push 0; set x; end"},
		{"in x 0", "in x 0; end"}, {"in abcdef 3", "in abcdef 3; end"}, {"out 0 7", "push 7; out 0; end"}, {"out 3 x", "load x; out 3; end"}, {"out 2 2", "push 2; out 2; end"},
		{"set x + 1 2", "push 1; push 2; do 1; set x; end"}, {"set x - 1 2", "push 1; push 2; do 2; set x; end"}, {"set x * 1 2", "push 1; push 2; do 3; set x; end"},
		{"set x / 1 2", "push 1; push 2; do 4; set x; end"}, {"set x < 1 2", "push 1; push 2; do 5; set x; end"}, {"set x = 1 2", "push 1; push 2; do 6; set x; end"},
		{"out 1 - x y", "load x; load y; do 2; out 1; end"}, {"out 1 - y x", "load y; load x; do 2; out 1; end"}, {"out 1 / x 0", "load x; push 0; do 4; out 1; end"},
		{"set z - - 1 2 3", "push 1; push 2; do 2; push 3; do 2; set z; end"}, {"set z - 1 - 2 3", "push 1; push 2; push 3; do 2; do 2; set z; end"},
		{"set z + * 1 2 / 3 4", "push 1; push 2; do 3; push 3; push 4; do 4; do 1; set z; end"},
		{"out 0 < + a - b c = d * e 1", "load a; load b; load c; do 2; do 1; load d; load e; push 1; do 3; do 6; do 5; out 0; end"},
		{"out 0 + 1 - 2 * 3 / 4 < 5 = 6 7", "push 1; push 2; push 3; push 4; push 5; push 6; push 7; do 6; do 5; do 4; do 3; do 2; do 1; out 0; end"},
		{"out 0 + - * / < = 1 2 3 4 5 6 7", "push 1; push 2; do 6; push 3; do 5; push 4; do 4; push 5; do 3; push 6; do 2; push 7; do 1; out 0; end"},
		{"if x [ ] [ ]", "load x; unless 3; go 3; end"}, {"if x [ stop ] [ ]", "load x; unless 4; stop; go 4; end"}, {"if x [ ] [ stop ]", "load x; unless 3; go 4; stop; end"},
		{"if 1 [ set a 2 ] [ set b 3 ]", "push 1; unless 5; push 2; set a; go 7; push 3; set b; end"}, {"if < x 3 [ stop stop ] [ stop ]", "load x; push 3; do 5; unless 7; stop; stop; go 8; stop; end"},
		{"while x [ ]", "load x; unless 3; go 0; end"}, {"while 0 [ ]", "push 0; unless 3; go 0; end"}, {"while < x 9 [ ]", "load x; push 9; do 5; unless 5; go 0; end"},
		{"while x [ stop ]", "load x; unless 4; stop; go 0; end"}, {"while = x y [ in x 1 out 0 x ]", "load x; load y; do 6; unless 8; in x 1; load x; out 0; go 0; end"},
		// Each place is counted from the beginning of the whole.
		{"stop if x [ ] [ ]", "stop; load x; unless 4; go 4; end"}, {"stop while x [ ]", "stop; load x; unless 4; go 1; end"}, {"in y 2 stop while x [ stop ] stop", "in y 2; stop; load x; unless 6; stop; go 2; stop; end"},
		{"while x [ ] while y [ ]", "load x; unless 3; go 0; load y; unless 6; go 3; end"}, {"if x [ ] [ ] if y [ ] [ ]", "load x; unless 3; go 3; load y; unless 6; go 6; end"},
		{"if x [ stop ] [ stop ] while y [ stop ]", "load x; unless 4; stop; go 5; stop; load y; unless 9; stop; go 5; end"},
		{"while x [ while y [ ] ]", "load x; unless 6; load y; unless 5; go 2; go 0; end"}, {"while x [ stop while y [ stop ] stop ]", "load x; unless 9; stop; load y; unless 7; stop; go 3; stop; go 0; end"},
		{"if x [ if y [ ] [ ] ] [ ]", "load x; unless 6; load y; unless 5; go 5; go 6; end"}, {"if x [ ] [ if y [ ] [ ] ]", "load x; unless 3; go 6; load y; unless 6; go 6; end"},
		{"if x [ while y [ ] ] [ while z [ ] ]", "load x; unless 6; load y; unless 5; go 2; go 9; load z; unless 9; go 6; end"},
		{"while x [ if y [ stop ] [ set x 1 ] ]", "load x; unless 9; load y; unless 6; stop; go 8; push 1; set x; go 0; end"},
		{"in x 1 while < x 3 [ out 0 x ] if x [ stop ] [ set y 5 ]", "in x 1; load x; push 3; do 5; unless 8; load x; out 0; go 1; load x; unless 12; stop; go 14; push 5; set y; end"},
		// The words of the deeds, where they are names.
		{"set set set", "load set; set set; end"}, {"in in 0", "in in 0; end"}, {"out 0 stop", "load stop; out 0; end"}, {"if if [ ] [ ]", "load if; unless 3; go 3; end"}, {"while while [ stop ]", "load while; unless 4; stop; go 0; end"},
		{"set in out set if + while stop", "load out; set in; load while; load stop; do 1; set if; end"},
	}
}

func TestKnownCodes(t *testing.T) {
	for _, k := range knownCodes() {
		signs := strings.Fields(k.play)
		code := impl.CodeOf(signs)
		if got := impl.ShowCode(code); got != k.code {
			t.Errorf("%s: the code is %q, want %q", k.play, got, k.code)
		}
		if got := codeTextByRule(code); got != k.code {
			t.Errorf("%s: the code is %v, want %q", k.play, code, k.code)
		}
		if got := codeTextByRule(codeByRule(signs)); got != k.code {
			t.Errorf("%s: the rule tells %q, want %q", k.play, got, k.code)
		}
	}
}

// joined moves each part's places by what lies ahead of it, so that by the rule
// each part is counted from its own beginning, apart from the way the program
// goes.
func joined(parts ...[]impl.Op) []impl.Op {
	whole := []impl.Op{}
	for _, part := range parts {
		ahead := int64(len(whole))
		for _, o := range part {
			if o.Kind == 7 || o.Kind == 8 {
				o.Number += ahead
			}
			whole = append(whole, o)
		}
	}
	return whole
}

// onlyOp is a part of one Op; its place, if it has one, is counted from itself.
func onlyOp(o impl.Op) []impl.Op { return []impl.Op{o} }

func sumByRule(l []string, at int64) []impl.Op {
	if n, is := readByRule(l[at]); is {
		return onlyOp(push(n))
	}
	op := strings.Index(opSigns, l[at])
	if op < 0 {
		return onlyOp(load(l[at]))
	}
	second := toldByRule(l, at+1, nil).end
	return joined(sumByRule(l, at+1), sumByRule(l, second), onlyOp(do(int64(op)+1)))
}

// listByRule is of the deeds in the [ ] that begin at a place, and of the place
// behind them.
func listByRule(l []string, at int64) ([]impl.Op, int64) {
	end := nothingNoted().list(l, at, 0)
	return deedsByRule(l[:end-1], at+1), end
}

func deedByRule(l []string, at int64) []impl.Op {
	switch l[at] {
	case "set":
		return joined(sumByRule(l, at+2), onlyOp(set(l[at+1])))
	case "in":
		return onlyOp(in(l[at+1], int64(l[at+2][0]-'0')))
	case "out":
		return joined(sumByRule(l, at+2), onlyOp(out(int64(l[at+1][0]-'0'))))
	case "stop":
		return onlyOp(stop())
	}
	asked := sumByRule(l, at+1)
	first, behind := listByRule(l, toldByRule(l, at+1, nil).end)
	leave := onlyOp(unless(int64(len(first)) + 2))
	if l[at] == "while" {
		back := int64(len(asked) + 1 + len(first))
		return joined(asked, leave, first, onlyOp(goTo(-back)))
	}
	second, _ := listByRule(l, behind)
	return joined(asked, leave, first, onlyOp(goTo(int64(len(second))+1)), second)
}

func deedsByRule(l []string, at int64) []impl.Op {
	deeds := []impl.Op{}
	for at < int64(len(l)) {
		deeds = joined(deeds, deedByRule(l, at))
		at = deedEndByRule(l, at)
	}
	return deeds
}

func codeByRule(l []string) []impl.Op {
	if !playByRule(l).is {
		return nil
	}
	return joined(deedsByRule(l, 0), onlyOp(end()))
}

// checkStaysWithin is promise 8.
func checkStaysWithin(t *testing.T, l []string, code []impl.Op) {
	t.Helper()
	for at, o := range code {
		leads := o.Kind == impl.OcGo || o.Kind == impl.OcUnless
		if !impl.OpOk(o) || !opOkByRule(o) {
			t.Errorf("CodeOf(%.80q): Op %d is %v, which is not right", l, at, o)
		}
		if leads && (o.Number < 0 || o.Number >= int64(len(code))) {
			t.Errorf("CodeOf(%.80q): Op %d of %d, %v, leads out", l, at, len(code), o)
		}
		if (o.Kind == impl.OcEnd) != (at == len(code)-1) {
			t.Errorf("CodeOf(%.80q): Op %d of %d is %v", l, at, len(code), o)
		}
	}
}

func checkCode(t *testing.T, l []string) {
	t.Helper()
	got, want := impl.CodeOf(l), codeByRule(l)
	if !slices.Equal(got, want) {
		t.Errorf("CodeOf(%.80q) = %v, want %v", l, got, want)
	}
	if (len(got) > 0) != playByRule(l).is {
		t.Errorf("CodeOf(%.80q) has %d Ops", l, len(got))
	}
	checkStaysWithin(t, l, got)
	if shown, text := impl.ShowCode(got), codeTextByRule(want); shown != text {
		t.Errorf("ShowCode of CodeOf(%.80q) is %q, want %q", l, shown, text)
	}
}

func checkNoCode(t *testing.T, l []string) {
	t.Helper()
	if got := impl.CodeOf(l); len(got) != 0 {
		t.Errorf("CodeOf(%.80q) = %v, want nothing", l, got)
	}
}

func TestCodeOfTheEmptyPlay(t *testing.T) {
	for _, l := range [][]string{nil, {}, times(3, "stop")[:0]} {
		if got := impl.CodeOf(l); !slices.Equal(got, []impl.Op{end()}) {
			t.Errorf("CodeOf(%q) = %v", l, got)
		}
	}
	checkNoCode(t, []string{""})
}

func TestCodesOfKnownDeeds(t *testing.T) {
	for _, k := range knownDeeds() {
		signs := strings.Fields(k.text)
		checkCode(t, signs)
		for _, other := range knownDeeds() {
			more := strings.Fields(other.text)
			checkCode(t, slices.Concat(signs, more))
			checkCode(t, slices.Concat([]string{"while", "x", "["}, signs, more, []string{"]"}))
			checkCode(t, slices.Concat([]string{"in", "x", "0", "if", "-", "x", "1", "["}, signs, []string{"]", "["}, more, []string{"]", "stop"}))
		}
	}
}

// A sum by itself, in each deed that has one: the Ops around it are the same
// whatever it is.
func TestCodesOfSums(t *testing.T) {
	for _, k := range knownSums() {
		sum := strings.Fields(k.text)
		ops := sumByRule(sum, 0)
		size := int64(len(ops))
		cases := []struct {
			ahead, behind string
			want          []impl.Op
		}{
			{"set y", "", slices.Concat(ops, []impl.Op{set("y"), end()})},
			{"out 2", "", slices.Concat(ops, []impl.Op{out(2), end()})},
			{"if", "[ ] [ ]", slices.Concat(ops, []impl.Op{unless(size + 2), goTo(size + 2), end()})},
			{"if", "[ stop ] [ stop stop ]", slices.Concat(ops, []impl.Op{unless(size + 3), stop(), goTo(size + 5), stop(), stop(), end()})},
			{"while", "[ ]", slices.Concat(ops, []impl.Op{unless(size + 2), goTo(0), end()})},
			{"stop while", "[ stop ]", slices.Concat([]impl.Op{stop()}, ops, []impl.Op{unless(size + 4), stop(), goTo(1), end()})},
		}
		for _, c := range cases {
			l := slices.Concat(strings.Fields(c.ahead), sum, strings.Fields(c.behind))
			if got := impl.CodeOf(l); !slices.Equal(got, c.want) {
				t.Errorf("CodeOf(%q) = %v, want %v", l, got, c.want)
			}
			checkCode(t, l)
		}
	}
}

func TestCodesOfDeedsInDeeds(t *testing.T) {
	var grow func(kinds string)
	grow = func(kinds string) {
		for _, within := range []string{"", "stop", "out 3 x set x 1", "if x [ ] [ stop ] while x [ ]"} {
			signs := nested(kinds, within)
			checkCode(t, signs)
			checkCode(t, slices.Concat([]string{"stop"}, signs, []string{"in", "x", "1"}))
			checkCode(t, slices.Concat(signs, signs))
			if len(kinds) > 5 {
				checkNoCode(t, signs)
			}
		}
		if len(kinds) < 6 {
			for _, kind := range []string{"w", "1", "2"} {
				grow(kinds + kind)
			}
		}
	}
	grow("")
}

func TestCodesOfDeedsOneSignAway(t *testing.T) {
	for _, k := range knownDeeds() {
		signs := strings.Fields(k.text)
		for at := range len(signs) + 1 {
			for _, sign := range signsToTry() {
				checkCode(t, slices.Insert(slices.Clone(signs), at, sign))
				if at < len(signs) {
					checkCode(t, slices.Replace(slices.Clone(signs), at, at+1, sign))
				}
			}
			if at < len(signs) {
				checkCode(t, slices.Delete(slices.Clone(signs), at, at+1))
			}
		}
	}
}

func checkEveryCode(t *testing.T, alphabet []string, most int) {
	t.Helper()
	var grow func(l []string)
	grow = func(l []string) {
		checkCode(t, l)
		if len(l) < most && !t.Failed() {
			for _, sign := range alphabet {
				grow(append(slices.Clone(l), sign))
			}
		}
	}
	grow(nil)
}

func TestCodeOfEveryShortList(t *testing.T) {
	checkEveryCode(t, []string{"set", "in", "out", "stop", "while", "x", "2", "-", "[", "]"}, 4)
	checkEveryCode(t, []string{"if", "while", "stop", "[", "]"}, 7)
	checkEveryCode(t, []string{"set", "out", "a", "1", "+"}, 6)
}

// Every play of so many parts, each laid by this alphabet of whole pieces.
func TestCodesOfManyDeeds(t *testing.T) {
	pieces := []string{"stop", "set x + y 1", "in y 2", "out 1 x", "if x [", "] [", "while < x 2 [", "]"}
	plays := 0
	var grow func(text string, parts int)
	grow = func(text string, parts int) {
		l := strings.Fields(text)
		if playByRule(l).is {
			plays++
			checkCode(t, l)
		}
		if parts < 6 && !t.Failed() {
			for _, piece := range pieces {
				grow(text+" "+piece, parts+1)
			}
		}
	}
	grow("", 0)
	if plays < 1000 {
		t.Errorf("only %d plays", plays)
	}
}

func TestNoCodeOfWhatIsNoPlay(t *testing.T) {
	for _, text := range noDeeds() {
		signs := strings.Split(text, " ")
		checkNoCode(t, signs)
		checkNoCode(t, append([]string{"stop"}, signs...))
		checkNoCode(t, slices.Concat([]string{"while", "x", "["}, signs, []string{"]"}))
		checkNoCode(t, slices.Concat([]string{"if", "x", "[", "]", "["}, signs, []string{"]"}))
	}
	for _, k := range knownDeeds() {
		signs := strings.Fields(k.text)
		for size := 1; size < len(signs); size++ {
			checkNoCode(t, signs[:size])
			checkNoCode(t, append([]string{"stop"}, signs[:size]...))
		}
	}
	for _, none := range noSigns() {
		checkNoCode(t, []string{none})
		checkNoCode(t, []string{"set", "x", none})
		checkNoCode(t, []string{"set", none, "1"})
		checkNoCode(t, []string{"stop", none})
		checkNoCode(t, []string{none, "stop"})
	}
}

// At each limit of a play there is a code, past it there is none. The longest
// codes are of the plays with one Op for each sign.
func TestCodesAtTheLimitsOfPlays(t *testing.T) {
	hundred := [][]string{
		times(100, "stop"), append(times(33, "in x 0"), "stop"), append(append([]string{"set", "x"}, wideSum(97)...), "stop"), times(25, "while x [ ]"),
		slices.Concat([]string{"out", "0"}, wideSum(47), []string{"set", "x"}, wideSum(49)), slices.Concat([]string{"while", "x", "["}, times(96, "stop"), []string{"]"}),
		slices.Concat([]string{"if", "x", "["}, times(50, "stop"), []string{"]", "["}, times(44, "stop"), []string{"]"}),
		slices.Concat([]string{"stop", "if"}, wideSum(93), []string{"[", "]", "[", "]", "stop"}),
		slices.Concat([]string{"set", "x"}, leaningLeft(48, "x"), []string{"stop"}), slices.Concat([]string{"set", "x"}, leaningRight(48, "x"), []string{"stop"}),
	}
	for _, l := range hundred {
		if len(l) != 100 || len(impl.CodeOf(l)) == 0 {
			t.Fatalf("%d signs: %d Ops", len(l), len(impl.CodeOf(l)))
		}
		checkCode(t, l)
		checkNoCode(t, append(slices.Clone(l), "stop"))
		checkNoCode(t, append([]string{"stop"}, l...))
		checkNoCode(t, append(slices.Clone(l), l...))
	}
	if got := len(impl.CodeOf(times(100, "stop"))); got != 101 {
		t.Errorf("a hundred stops have %d Ops", got)
	}
	for count := range 16 {
		for _, l := range playsOfNames(letters(count)) {
			checkCode(t, l)
			if count > 12 {
				checkNoCode(t, l)
			}
		}
	}
	const depth = 200000
	checkNoCode(t, slices.Concat(times(depth, "while x ["), times(depth, "]")))
	checkNoCode(t, slices.Concat([]string{"set", "x"}, leaningLeft(depth, "x")))
	checkNoCode(t, slices.Concat([]string{"set", "x"}, leaningRight(depth, "x")))
}

func oneOfEachKind() []impl.Op {
	return []impl.Op{push(-12), load("x"), do(6), set("abcdef"), in("y", 3), out(0), goTo(300), unless(0), stop(), end()}
}

func checkShow(t *testing.T, code []impl.Op, want string) {
	t.Helper()
	if got := impl.ShowCode(code); got != want {
		t.Errorf("ShowCode(%.200v) = %.200q, want %.200q", code, got, want)
	}
}

func TestShowCode(t *testing.T) {
	checkShow(t, nil, "")
	checkShow(t, []impl.Op{}, "")
	checkShow(t, oneOfEachKind()[:0], "")
	checkShow(t, oneOfEachKind(), "push -12; load x; do 6; set abcdef; in y 3; out 0; go 300; unless 0; stop; end")
	cases := []struct {
		op   impl.Op
		want string
	}{
		{push(0), "push 0"}, {push(7), "push 7"}, {push(10), "push 10"}, {push(-1), "push -1"}, {push(-10), "push -10"}, {push(100), "push 100"},
		{push(leastWord), "push -2147483648"}, {push(greatestWord), "push 2147483647"},
		{load("a"), "load a"}, {load("zzzzzz"), "load zzzzzz"}, {do(1), "do 1"}, {do(6), "do 6"}, {set("x"), "set x"}, {set("set"), "set set"},
		{in("x", 0), "in x 0"}, {in("in", 3), "in in 3"}, {out(0), "out 0"}, {out(3), "out 3"},
		{goTo(0), "go 0"}, {goTo(9), "go 9"}, {goTo(99), "go 99"}, {goTo(300), "go 300"}, {unless(0), "unless 0"}, {unless(10), "unless 10"}, {unless(300), "unless 300"},
		{stop(), "stop"}, {end(), "end"},
	}
	for _, c := range cases {
		checkShow(t, []impl.Op{c.op}, c.want)
		checkShow(t, []impl.Op{c.op, c.op}, c.want+"; "+c.want)
		for _, other := range cases {
			checkShow(t, []impl.Op{c.op, other.op}, c.want+"; "+other.want)
			checkShow(t, []impl.Op{stop(), c.op, other.op, stop()}, "stop; "+c.want+"; "+other.want+"; stop")
		}
	}
}

// It need be no code of a play: neither its places nor its size nor its end
// matter.
func TestShowCodeOfManyOps(t *testing.T) {
	for _, count := range []int{1, 2, 100, 101, 102, 299, 300, 301, 302, 1000, 20000} {
		want := strings.Repeat("go 300; ", count-1) + "go 300"
		checkShow(t, slices.Repeat([]impl.Op{goTo(300)}, count), want)
		checkShow(t, append(slices.Repeat([]impl.Op{goTo(300)}, count), goTo(301)), "")
	}
}

func wrongOps() []impl.Op {
	return []impl.Op{
		{}, {Kind: 11}, {Kind: -1}, {Kind: math.MinInt64}, {Kind: math.MaxInt64}, {Kind: 1<<32 + 9},
		push(greatestWord + 1), push(leastWord - 1), push(math.MinInt64), push(math.MaxInt64), {Kind: 1, Name: "x"},
		load(""), load("X"), load("abcdefg"), {Kind: 2, Number: 1, Name: "x"}, do(0), do(7), do(-1), {Kind: 3, Number: 1, Name: "x"},
		set(""), set("1"), {Kind: 4, Number: -1, Name: "x"}, in("", 0), in("x", 4), in("x", -1), in("x y", 1), out(4), out(-1), {Kind: 6, Name: "x"},
		goTo(301), goTo(-1), {Kind: 7, Name: "x"}, unless(301), unless(-1), {Kind: 8, Name: "x"},
		{Kind: 9, Number: 1}, {Kind: 9, Name: "x"}, {Kind: 10, Number: 1}, {Kind: 10, Name: "x"}, {Kind: 10, Number: -1},
	}
}

func TestOneWrongOpIsEnough(t *testing.T) {
	for _, wrong := range wrongOps() {
		checkOp(t, wrong, false)
		for at := range len(oneOfEachKind()) + 1 {
			checkShow(t, slices.Insert(oneOfEachKind(), at, wrong), "")
			if at < len(oneOfEachKind()) {
				checkShow(t, slices.Replace(oneOfEachKind(), at, at+1, wrong), "")
			}
		}
		checkShow(t, []impl.Op{wrong, wrong}, "")
	}
}

func TestWhatIsHandedToCodeStays(t *testing.T) {
	texts := noDeeds()
	for _, k := range knownDeeds() {
		texts = append(texts, k.text, k.text+" "+k.text, k.text+" ]")
	}
	texts = append(texts, strings.Join(times(100, "stop"), " "), strings.Join(times(101, "stop"), " "))
	for _, text := range texts {
		signs, room := inRoom(strings.Split(text, " "), "stop")
		before := slices.Clone(room)
		code, codeRoom := inRoom(impl.CodeOf(signs), stop())
		codeBefore := slices.Clone(codeRoom)
		impl.ShowCode(code)
		fill(impl.CodeOf(signs), impl.Op{Kind: 77, Number: -77, Name: "spoilt"})
		if !slices.Equal(room, before) {
			t.Errorf("the signs %q and the room behind them became %q", before, room)
		}
		if !slices.Equal(codeRoom, codeBefore) {
			t.Errorf("the code %v and the room behind it became %v", codeBefore, codeRoom)
		}
	}
	for _, wrong := range wrongOps() {
		code, room := inRoom([]impl.Op{stop(), wrong, end()}, wrong)
		before := slices.Clone(room)
		impl.ShowCode(code)
		if !slices.Equal(room, before) {
			t.Errorf("the code %v and the room behind it became %v", before, room)
		}
	}
}

// What lies behind a list, in its spare room, is none of it.
func TestSpareRoomIsNoPartOfACode(t *testing.T) {
	list := strings.Fields("stop while x [ in y 1 ] stop")
	checkNoCode(t, list[:7])
	checkShow(t, impl.CodeOf(list[:1]), "stop; end")
	checkShow(t, impl.CodeOf(list[:8]), "stop; load x; unless 5; in y 1; go 1; end")
	checkShow(t, oneOfEachKind()[:2], "push -12; load x")
	wrong := []impl.Op{stop(), {}, end()}
	checkShow(t, wrong[:1], "stop")
	checkShow(t, wrong[2:], "end")
}

func TestCodesAreNewMemory(t *testing.T) {
	spoilt := impl.Op{Kind: 77, Number: -77, Name: "spoilt"}
	texts := []string{"", "what", strings.Join(times(100, "stop"), " ")}
	for _, k := range knownDeeds() {
		texts = append(texts, k.text)
	}
	for _, text := range texts {
		signs := strings.Fields(text)
		want := codeByRule(signs)
		code, other := impl.CodeOf(signs), impl.CodeOf(signs)
		fill(code, spoilt)
		if !slices.Equal(other, want) {
			t.Errorf("%s: another answer became %v", text, other)
		}
		checkCode(t, signs)
		// What is put behind an answer reaches no other one.
		longer := append(other, spoilt)
		if !slices.Equal(impl.CodeOf(signs), want) || !slices.Equal(longer[:len(other)], want) {
			t.Errorf("%s: an answer became another by a longer one", text)
		}
	}
	// A code outlives the signs it is of.
	signs := strings.Fields("while x [ in y 1 ] set z - 1 x")
	code := impl.CodeOf(signs)
	fill(signs, "spoilt")
	checkShow(t, code, "load x; unless 4; in y 1; go 0; push 1; load x; do 2; set z; end")
}

package tests

import (
	"math"
	"math/big"
	"regexp"
	"strconv"
	"strings"
	"testing"

	"loop.example/g00533/impl"
)

const leastWord, greatestWord = int64(-2147483648), int64(2147483647)

// wordsToTry are words at both ends, around 0, and around the bits in between,
// where sums and products begin to go round.
func wordsToTry() []int64 {
	var l []int64
	for n := int64(-12); n <= 12; n++ {
		l = append(l, n)
	}
	for n := range int64(6) {
		l = append(l, leastWord+n, greatestWord-n)
	}
	for _, p := range []int64{255, 32767, 46340, 65535, 1 << 20, 123456789, 1 << 30} {
		l = append(l, p, p+1, -p, -p-1)
	}
	return l
}

// noWords are one and more past each end, and numbers whose low bits alone are
// a word.
func noWords() []int64 {
	l := []int64{
		leastWord - 1, leastWord - 2, greatestWord + 1, greatestWord + 2,
		math.MinInt64, math.MinInt64 + 1, math.MaxInt64 - 1, math.MaxInt64,
	}
	for shift := 32; shift <= 62; shift++ {
		p := int64(1) << shift
		l = append(l, p-1, p, p+1, p+7, -p-1, -p, -p+1, -p+7)
	}
	return l
}

func everyOp() []int64 {
	return []int64{impl.OpAdd, impl.OpLess, impl.OpTimes, impl.OpBy, impl.OpBelow, impl.OpSame}
}

func noOps() []int64 {
	return []int64{
		0, 7, 8, -1, -2, -3, -4, -5, -6, -7, 63, 64, 255, 256, 257,
		1<<32 + 1, 1<<32 + 4, -1<<32 + 6, 1<<62 + 1, math.MinInt64, math.MinInt64 + 1, math.MaxInt64,
	}
}

// wrappedByRule goes by the rest of numbers that have no end, apart from the
// way the program goes.
func wrappedByRule(n *big.Int) int64 {
	round := big.NewInt(1 << 32)
	rest := new(big.Int).Mod(n, round)
	if rest.Cmp(big.NewInt(greatestWord)) > 0 {
		rest.Sub(rest, round)
	}
	return rest.Int64()
}

func flag(is bool) int64 {
	return map[bool]int64{true: 1}[is]
}

// didByRule is of words and ops alone.
func didByRule(op int64, a int64, b int64) (int64, bool) {
	x, y, z := big.NewInt(a), big.NewInt(b), new(big.Int)
	switch op {
	case 1:
		return wrappedByRule(z.Add(x, y)), true
	case 2:
		return wrappedByRule(z.Sub(x, y)), true
	case 3:
		return wrappedByRule(z.Mul(x, y)), true
	case 4:
		if b == 0 {
			return 0, false
		}
		return wrappedByRule(z.Quo(x, y)), true
	case 5:
		return flag(x.Cmp(y) < 0), true
	default:
		return flag(x.Cmp(y) == 0), true
	}
}

func checkDid(t *testing.T, op int64, a int64, b int64, want int64, right bool) {
	t.Helper()
	if got, is := impl.Did(op, a, b); got != want || is != right {
		t.Errorf("Did(%d, %d, %d) = %d, %v, want %d, %v", op, a, b, got, is, want, right)
	}
}

func TestOpsAreNumberedInOrder(t *testing.T) {
	for k, op := range everyOp() {
		if op != int64(k)+1 {
			t.Errorf("op %d of the chapter is %d", k+1, op)
		}
	}
}

func TestWordOkAtTheEnds(t *testing.T) {
	for _, n := range wordsToTry() {
		if !impl.WordOk(n) {
			t.Errorf("WordOk(%d) is false", n)
		}
	}
	for _, n := range noWords() {
		if impl.WordOk(n) {
			t.Errorf("WordOk(%d) is true", n)
		}
	}
}

func TestWrapOfKnownNumbers(t *testing.T) {
	cases := []struct{ n, want int64 }{
		{0, 0}, {1, 1}, {-1, -1}, {leastWord, leastWord}, {greatestWord, greatestWord},
		{2147483648, -2147483648}, {2147483649, -2147483647}, {-2147483649, 2147483647}, {-2147483650, 2147483646},
		{4294967295, -1}, {4294967296, 0}, {4294967297, 1}, {-4294967295, 1}, {-4294967296, 0}, {-4294967297, -1},
		{6442450943, 2147483647}, {6442450944, -2147483648}, {-6442450944, -2147483648}, {-6442450945, 2147483647},
		{math.MaxInt64, -1}, {math.MaxInt64 - 1, -2}, {math.MinInt64, 0}, {math.MinInt64 + 1, 1},
		{math.MaxInt64 - 2147483648, 2147483647}, {math.MinInt64 + 2147483648, -2147483648},
	}
	for _, c := range cases {
		if got := impl.Wrap(c.n); got != c.want {
			t.Errorf("Wrap(%d) = %d, want %d", c.n, got, c.want)
		}
	}
}

func TestWrapOfEveryKindOfNumber(t *testing.T) {
	for _, n := range wordsToTry() {
		if got := impl.Wrap(n); got != n {
			t.Errorf("Wrap(%d) = %d, want the word itself", n, got)
		}
	}
	numbers := append(noWords(), aroundLimits()...)
	for _, high := range wordsToTry() {
		for _, low := range wordsToTry() {
			numbers = append(numbers, high<<32+low)
		}
	}
	for _, n := range numbers {
		got := impl.Wrap(n)
		if want := wrappedByRule(big.NewInt(n)); got != want {
			t.Errorf("Wrap(%d) = %d, want %d", n, got, want)
		}
		if !impl.WordOk(got) {
			t.Errorf("Wrap(%d) = %d is no word", n, got)
		}
	}
}

func TestDidOfOrdinaryWords(t *testing.T) {
	cases := []struct{ op, a, b, want int64 }{
		{1, 2, 3, 5}, {1, -2, 3, 1}, {1, 2, -3, -1}, {1, 0, 0, 0}, {1, 1000000000, 1000000000, 2000000000},
		{2, 7, 3, 4}, {2, 3, 7, -4}, {2, -3, -7, 4}, {2, -3, 7, -10}, {2, 5, 0, 5}, {2, 0, 5, -5},
		{3, 6, 7, 42}, {3, -6, 7, -42}, {3, 6, -7, -42}, {3, -6, -7, 42}, {3, 9, 0, 0}, {3, 46340, 46340, 2147395600},
		{4, 7, 2, 3}, {4, -7, 2, -3}, {4, 7, -2, -3}, {4, -7, -2, 3},
		{4, 1, 2, 0}, {4, -1, 2, 0}, {4, 1, -2, 0}, {4, -1, -2, 0}, {4, 0, 9, 0}, {4, 8, 2, 4}, {4, -8, 2, -4},
		{5, 1, 2, 1}, {5, 2, 1, 0}, {5, 2, 2, 0}, {5, -1, 0, 1}, {5, 0, -1, 0}, {5, -2, -1, 1},
		{6, 4, 4, 1}, {6, 4, 5, 0}, {6, -4, -4, 1}, {6, 4, -4, 0}, {6, 0, 0, 1},
	}
	for _, c := range cases {
		checkDid(t, c.op, c.a, c.b, c.want, true)
	}
}

// Promise 5 at each end that the chapter has.
func TestDidGoesRoundAtTheEnds(t *testing.T) {
	least, greatest := leastWord, greatestWord
	cases := []struct{ op, a, b, want int64 }{
		{1, greatest, 1, least}, {1, 1, greatest, least}, {1, greatest, 2, least + 1}, {1, greatest, 0, greatest},
		{1, least, -1, greatest}, {1, least, least, 0}, {1, greatest, greatest, -2}, {1, least, greatest, -1},
		{2, least, 1, greatest}, {2, greatest, -1, least}, {2, 0, least, least}, {2, -1, least, greatest},
		{2, 1, least, least + 1}, {2, greatest, least, -1}, {2, least, greatest, 1}, {2, least, least, 0}, {2, 0, greatest, least + 1},
		{3, greatest, greatest, 1}, {3, least, least, 0}, {3, least, -1, least}, {3, -1, least, least},
		{3, greatest, 2, -2}, {3, least, 2, 0}, {3, least, greatest, least}, {3, 65536, 65536, 0},
		{3, 65536, 32768, least}, {3, 46341, 46341, -2147479015}, {3, greatest, -1, least + 1},
		{4, least, -1, least}, {4, least, 1, least}, {4, greatest, -1, least + 1}, {4, greatest, 1, greatest},
		{4, least, least, 1}, {4, greatest, least, 0}, {4, least, greatest, -1}, {4, greatest, greatest, 1}, {4, least, 2, -1073741824},
		{5, least, greatest, 1}, {5, greatest, least, 0}, {5, least, least, 0}, {5, greatest, greatest, 0},
		{5, least, least + 1, 1}, {5, greatest - 1, greatest, 1},
		{6, least, least, 1}, {6, greatest, greatest, 1}, {6, least, greatest, 0}, {6, greatest, least, 0},
	}
	for _, c := range cases {
		checkDid(t, c.op, c.a, c.b, c.want, true)
	}
}

// Promise 5 for each op with each two of the words.
func TestDidOfEachTwoWords(t *testing.T) {
	for _, op := range everyOp() {
		for _, a := range wordsToTry() {
			for _, b := range wordsToTry() {
				want, right := didByRule(op, a, b)
				checkDid(t, op, a, b, want, right)
			}
		}
	}
}

func TestByNoughtIsRefusedAndNoOtherOpIs(t *testing.T) {
	for _, a := range wordsToTry() {
		checkDid(t, impl.OpBy, a, 0, 0, false)
		checkDid(t, impl.OpAdd, a, 0, a, true)
		checkDid(t, impl.OpLess, a, 0, a, true)
		checkDid(t, impl.OpTimes, a, 0, 0, true)
		checkDid(t, impl.OpBelow, a, 0, flag(a < 0), true)
		checkDid(t, impl.OpSame, a, 0, flag(a == 0), true)
		if a != 0 {
			checkDid(t, impl.OpBy, 0, a, 0, true)
		}
	}
}

func TestDidOfWhatIsNoWord(t *testing.T) {
	for _, op := range append(everyOp(), noOps()...) {
		for _, wrong := range noWords() {
			for _, right := range wordsToTry() {
				checkDid(t, op, wrong, right, 0, false)
				checkDid(t, op, right, wrong, 0, false)
			}
			checkDid(t, op, wrong, wrong, 0, false)
			checkDid(t, op, wrong, greatestWord+1, 0, false)
			checkDid(t, op, leastWord-1, wrong, 0, false)
		}
	}
}

func TestDidOfOpsThatAreNone(t *testing.T) {
	for _, op := range noOps() {
		for _, a := range wordsToTry() {
			for _, b := range wordsToTry() {
				checkDid(t, op, a, b, 0, false)
			}
		}
	}
}

func TestNamesAndOthers(t *testing.T) {
	cases := []struct {
		s    string
		want bool
	}{
		{"a", true}, {"z", true}, {"m", true}, {"az", true}, {"abc", true}, {"zzzzz", true}, {"abcdef", true}, {"zzzzzz", true},
		{"set", true}, {"if", true}, {"while", true},
		{"", false}, {"abcdefg", false}, {"abcdefgh", false}, {strings.Repeat("a", 262), false}, {strings.Repeat("a", 100000), false},
		{"A", false}, {"Z", false}, {"aB", false}, {"Ab", false}, {"ABCDEF", false}, {"`", false}, {"{", false},
		{"0", false}, {"a1", false}, {"1a", false}, {" ", false}, {" a", false}, {"a ", false}, {"a b", false}, {"a\n", false},
		{"\x00", false}, {"a\x00", false}, {"-", false}, {"-a", false}, {"a_b", false},
		{"\xe1", false}, {"a\xe1", false}, {"\xff", false}, {"é", false}, {"ab\u00e9", false}, {"\uff41", false},
	}
	for _, c := range cases {
		if got := impl.NameOk(c.s); got != c.want {
			t.Errorf("NameOk(%.20q) = %v, want %v", c.s, got, c.want)
		}
	}
}

// Each byte at each place of each length.
func TestNamesWithEachByte(t *testing.T) {
	for size := range 9 {
		for place := range size {
			for sign := range 256 {
				bytes := []byte(strings.Repeat("q", size))
				bytes[place] = byte(sign)
				want := size <= 6 && strings.IndexByte("abcdefghijklmnopqrstuvwxyz", byte(sign)) >= 0
				if got := impl.NameOk(string(bytes)); got != want {
					t.Errorf("NameOk(%q) = %v, want %v", bytes, got, want)
				}
			}
		}
	}
}

var writtenAsNumber = regexp.MustCompile(`^(0|-?[1-9][0-9]*)$`)

// readByRule reads any number that is written as the conventions want it, and
// then asks whether it is a word.
func readByRule(s string) (int64, bool) {
	if !writtenAsNumber.MatchString(s) {
		return 0, false
	}
	n, _ := new(big.Int).SetString(s, 10)
	if n.Cmp(big.NewInt(leastWord)) < 0 || n.Cmp(big.NewInt(greatestWord)) > 0 {
		return 0, false
	}
	return n.Int64(), true
}

func checkReadWord(t *testing.T, s string, want int64, right bool) {
	t.Helper()
	if got, is := impl.ReadWord(s); got != want || is != right {
		t.Errorf("ReadWord(%.40q) of %d bytes = %d, %v, want %d, %v", s, len(s), got, is, want, right)
	}
}

func TestEachWordIsReadFromItsOwnText(t *testing.T) {
	checkReadWord(t, "0", 0, true)
	checkReadWord(t, "2147483647", greatestWord, true)
	checkReadWord(t, "-2147483648", leastWord, true)
	for _, n := range wordsToTry() {
		checkReadWord(t, big.NewInt(n).String(), n, true)
	}
	for n := int64(-70000); n <= 70000; n++ {
		checkReadWord(t, strconv.FormatInt(n, 10), n, true)
	}
	for n := leastWord; n <= greatestWord; n += 99991 {
		checkReadWord(t, strconv.FormatInt(n, 10), n, true)
	}
}

func TestTextsThatAreNoWord(t *testing.T) {
	texts := []string{
		"", "-", "--", "+", "-0", "--0", "+0", "+1", "+-1", "-+1", "--1", "00", "01", "012", "-01", "-012", "-00", "000",
		"0000000000", "00000000001", "02147483647", "-02147483648", "+2147483647",
		" ", " 1", "1 ", "1 2", "- 1", " -1", "\t1", "1\t", "1\n", "\n1", "1\r", "\x001", "1\x00", "\x00",
		"1-", "1-2", "1+2", "a", "a1", "1a", "12x4", "-a", "/", ":", "1/", "1:", "1.", "1.0", ".5", "1,000", "1e3", "1_000", "_1", "1_",
		"0x1", "0x10", "0b1", "0o7", "ff", "nan", "inf", "Inf",
		"\xb11", "1\xff", "\u0661", "\uff11", "\u22121", "\u20131",
		"2147483648", "2147483649", "2147483650", "3000000000", "9999999999", "-2147483649", "-2147483650", "-9999999999",
		"4294967295", "4294967296", "4294967297", "-4294967296", "-4294967297", "12345678901",
		"9223372036854775807", "9223372036854775808", "-9223372036854775808", "-9223372036854775809",
		"18446744073709551615", "18446744073709551616", "18446744073709551617", "-18446744073709551617",
		"340282366920938463463374607431768211457",
	}
	for _, sign := range []string{"0", "1", "9", "-"} {
		for _, count := range []int{11, 12, 19, 20, 21, 64, 100, 100000} {
			many := strings.Repeat(sign, count)
			texts = append(texts, many, "-"+many, many+"5", "1"+many, "-1"+many)
		}
	}
	for _, n := range noWords() {
		texts = append(texts, strconv.FormatInt(n, 10))
	}
	for _, s := range texts {
		checkReadWord(t, s, 0, false)
	}
}

func TestEveryShortTextAsAWord(t *testing.T) {
	var grow func(s string)
	grow = func(s string) {
		want, right := readByRule(s)
		checkReadWord(t, s, want, right)
		if len(s) < 5 {
			for _, sign := range "-+0159 a_" {
				grow(s + string(sign))
			}
		}
	}
	grow("")
}

// Each byte in place of each one of a word's text, and between each two.
func TestWordsWithEachByte(t *testing.T) {
	for _, text := range []string{"0", "7", "-7", "10", "-10", "2147483647", "-2147483648"} {
		for place := range len(text) + 1 {
			for sign := range 256 {
				between := text[:place] + string([]byte{byte(sign)}) + text[place:]
				want, right := readByRule(between)
				checkReadWord(t, between, want, right)
				if place < len(text) {
					instead := text[:place] + string([]byte{byte(sign)}) + text[place+1:]
					want, right = readByRule(instead)
					checkReadWord(t, instead, want, right)
				}
			}
		}
	}
}

package tests

import (
	"slices"
	"strings"
	"testing"

	"loop.example/g00533/impl"
)

// In joins and meets sign b of line a is the rank, or - where there is none.
type knownLattice struct {
	name   string
	order  string
	joins  string
	meets  string
	bottom int64
}

func knownLattices() []knownLattice {
	return []knownLattice{
		{"one rank", "1", "0", "0", 0},
		{"two, rising", "11/01", "01/11", "00/01", 0},
		{"two, falling", "10/11", "00/01", "01/11", 1},
		{"a chain, 1 then 0 then 2", "101/111/001", "002/012/222", "010/111/012", 1},
		{"a diamond", "1111/0101/0011/0001", "0123/1133/2323/3333", "0000/0101/0022/0123", 0},
		{"a diamond upside down", "1000/1100/1010/1111", "0000/0101/0022/0123", "0123/1133/2323/3333", 3},
		{"three side by side", "11111/01001/00101/00011/00001",
			"01234/11444/24244/34434/44444", "00000/01001/00202/00033/01234", 0},
		{"one beside a chain of two", "11111/01011/00101/00011/00001",
			"01234/11434/24244/33434/44444", "00000/01011/00202/01033/01234", 0},
		{"a chain of six", "111111/011111/001111/000111/000011/000001",
			"012345/112345/222345/333345/444445/555555", "000000/011111/012222/012333/012344/012345", 0},
		{"two rows of three", "111111/011011/001001/000111/000011/000001",
			"012345/112445/222555/345345/445445/555555", "000000/011011/012012/000333/011344/012345", 0},
	}
}

func knownNoLattices() []knownLattice {
	return []knownLattice{
		{"two apart", "10/01", "0-/-1", "0-/-1", -1},
		{"a fork", "111/010/001", "012/11-/2-2", "000/010/002", -1},
		{"a fork upside down", "110/010/011", "011/111/112", "00-/012/-22", -1},
		{"three apart", "100/010/001", "0--/-1-/--2", "0--/-1-/--2", -1},
		{"two with two above", "1011/0111/0010/0001", "0-23/-123/222-/33-3", "0-00/-111/012-/01-3", -1},
		{"two with two above, and both ends", "111111/010111/001111/000101/000011/000001",
			"012345/11-345/2-2345/333355/444545/555555", "000000/010111/002222/0123-3/012-44/012345", -1},
		{"six apart", "100000/010000/001000/000100/000010/000001",
			"0-----/-1----/--2---/---3--/----4-/-----5", "0-----/-1----/--2---/---3--/----4-/-----5", -1},
		{"five below rank 5", "100001/010001/001001/000101/000011/000001",
			"055555/515555/552555/555355/555545/555555", "0----0/-1---1/--2--2/---3-3/----44/012345", -1},
	}
}

// rankSign reads one sign of joins or meets.
func rankSign(lines string, a int, b int) int64 {
	sign := strings.Split(lines, "/")[a][b]
	if sign == '-' {
		return -1
	}
	return int64(sign - '0')
}

func TestKnownLatticesAndOthers(t *testing.T) {
	for _, k := range append(knownLattices(), knownNoLattices()...) {
		o, is := impl.ReadOrder(k.order)
		if !is {
			t.Fatalf("%s: no order", k.name)
		}
		for a := range o.Ups {
			for b := range o.Ups {
				want := rankSign(k.joins, a, b)
				if got := impl.Join(o, int64(a), int64(b)); got != want {
					t.Errorf("%s: Join(%d, %d) = %d, want %d", k.name, a, b, got, want)
				}
				want = rankSign(k.meets, a, b)
				if got := impl.Meet(o, int64(a), int64(b)); got != want {
					t.Errorf("%s: Meet(%d, %d) = %d, want %d", k.name, a, b, got, want)
				}
			}
		}
		if got := impl.BottomOf(o); got != k.bottom {
			t.Errorf("%s: BottomOf = %d, want %d", k.name, got, k.bottom)
		}
		if got, want := impl.LatticeOk(o), k.bottom >= 0; got != want {
			t.Errorf("%s: LatticeOk = %v, want %v", k.name, got, want)
		}
	}
}

func TestJoinAllOfNoneOneAndSeveral(t *testing.T) {
	cases := []struct {
		order   string
		s, want int64
	}{
		{"1", 0, 0}, {"1", 1, 0},
		{"10/11", 0, 1}, {"10/11", 1, 0}, {"10/11", 2, 1}, {"10/11", 3, 0},
		{"1111/0101/0011/0001", 0, 0}, {"1111/0101/0011/0001", 4, 2}, {"1111/0101/0011/0001", 5, 2},
		{"1111/0101/0011/0001", 6, 3}, {"1111/0101/0011/0001", 7, 3}, {"1111/0101/0011/0001", 15, 3},
		{"11111/01001/00101/00011/00001", 14, 4}, {"11111/01001/00101/00011/00001", 9, 3},
		{"111111/011111/001111/000111/000011/000001", 0, 0},
		{"111111/011111/001111/000111/000011/000001", 32, 5},
		{"111111/011111/001111/000111/000011/000001", 21, 4},
		{"111111/011111/001111/000111/000011/000001", 63, 5},
		{"111111/011011/001001/000111/000011/000001", 10, 4},
		{"111111/011011/001001/000111/000011/000001", 12, 5},
		{"111111/011011/001001/000111/000011/000001", 6, 2},
	}
	for _, c := range cases {
		o, _ := impl.ReadOrder(c.order)
		if got := impl.JoinAll(o, c.s); got != c.want {
			t.Errorf("JoinAll(%s, %d) = %d, want %d", c.order, c.s, got, c.want)
		}
	}
}

func TestJoinAllOfSetsThatAreNone(t *testing.T) {
	for _, k := range append(knownLattices(), knownNoLattices()...) {
		o, _ := impl.ReadOrder(k.order)
		past := int64(1) << len(o.Ups)
		for _, s := range append(aroundLimits(), past, past+1, 64, -1) {
			right := k.bottom >= 0 && s >= 0 && s < past
			if got := impl.JoinAll(o, s); right != (got >= 0) || got < -1 || got >= int64(len(o.Ups)) {
				t.Errorf("%s: JoinAll(%d) = %d", k.name, s, got)
			}
		}
	}
}

func TestJoinAndMeetOfRanksThatAreNotThere(t *testing.T) {
	for _, k := range append(knownLattices(), knownNoLattices()...) {
		o, _ := impl.ReadOrder(k.order)
		n := int64(len(o.Ups))
		for _, rank := range aroundLimits() {
			if rank >= 0 && rank < n {
				continue
			}
			for _, other := range []int64{0, n - 1, n, -1, rank} {
				for _, got := range []int64{
					impl.Join(o, rank, other), impl.Join(o, other, rank),
					impl.Meet(o, rank, other), impl.Meet(o, other, rank),
				} {
					if got != -1 {
						t.Errorf("%s: of %d and %d there is %d, want -1", k.name, rank, other, got)
					}
				}
			}
		}
	}
}

func checkNoLattice(t *testing.T, name string, o impl.Order) {
	t.Helper()
	if impl.LatticeOk(o) {
		t.Errorf("%s: LatticeOk", name)
	}
	if got := impl.BottomOf(o); got != -1 {
		t.Errorf("%s: BottomOf = %d, want -1", name, got)
	}
	for s := int64(-1); s <= 64; s++ {
		if got := impl.JoinAll(o, s); got != -1 {
			t.Errorf("%s: JoinAll(%d) = %d, want -1", name, s, got)
		}
	}
}

func TestLatticesOfWhatIsNoOrder(t *testing.T) {
	for name, ups := range wrongUps() {
		o := impl.Order{Ups: ups}
		checkNoLattice(t, name, o)
		for a := int64(-1); a <= 7; a++ {
			for b := int64(-1); b <= 7; b++ {
				if join, meet := impl.Join(o, a, b), impl.Meet(o, a, b); join != -1 || meet != -1 {
					t.Errorf("%s: Join(%d, %d) = %d, Meet %d, want -1", name, a, b, join, meet)
				}
			}
		}
	}
}

func TestOrdersThatAreNoLatticeHaveNoBottom(t *testing.T) {
	for _, k := range knownNoLattices() {
		o, _ := impl.ReadOrder(k.order)
		checkNoLattice(t, k.name, o)
	}
}

// inByRule tells who is in whose Ups, rank by rank.
func inByRule(ups []int64) [6][6]bool {
	var in [6][6]bool
	for a, s := range ups {
		for _, b := range membersByHalving(s) {
			in[a][b] = true
		}
	}
	return in
}

// leastAbove goes by the promise: above both, and below all that are.
func leastAbove(in [6][6]bool, n int64, a int64, b int64) int64 {
	for c := range n {
		least := in[a][c] && in[b][c]
		for d := range n {
			least = least && (!in[a][d] || !in[b][d] || in[c][d])
		}
		if least {
			return c
		}
	}
	return -1
}

func turnedByRule(in [6][6]bool) [6][6]bool {
	var out [6][6]bool
	for a := range in {
		for b := range in {
			out[b][a] = in[a][b]
		}
	}
	return out
}

// Promise 3; it answers whether the order is a lattice by the rule.
func checkLattice(t *testing.T, ups []int64) bool {
	t.Helper()
	o := impl.Order{Ups: ups}
	n := int64(len(ups))
	in := inByRule(ups)
	out := turnedByRule(in)
	lattice := true
	for a := range n {
		for b := range n {
			join, meet := leastAbove(in, n, a, b), leastAbove(out, n, a, b)
			if got := impl.Join(o, a, b); got != join {
				t.Errorf("Join(%v, %d, %d) = %d, want %d", ups, a, b, got, join)
			}
			if got := impl.Meet(o, a, b); got != meet {
				t.Errorf("Meet(%v, %d, %d) = %d, want %d", ups, a, b, got, meet)
			}
			lattice = lattice && join >= 0 && meet >= 0
		}
	}
	if got := impl.LatticeOk(o); got != lattice {
		t.Errorf("LatticeOk(%v) = %v, want %v", ups, got, lattice)
	}
	if lattice {
		checkJoinAll(t, ups, in)
	} else if impl.BottomOf(o) != -1 || impl.JoinAll(o, 0) != -1 || impl.JoinAll(o, 1) != -1 {
		t.Errorf("%v has a bottom or a JoinAll, and is no lattice", ups)
	}
	return lattice
}

// checkJoinAll joins one by one, from the bottom on.
func checkJoinAll(t *testing.T, ups []int64, in [6][6]bool) {
	t.Helper()
	o := impl.Order{Ups: ups}
	n := int64(len(ups))
	bottom := impl.BottomOf(o)
	if bottom < 0 || bottom >= n || slices.Contains(in[bottom][:n], false) {
		t.Fatalf("BottomOf(%v) = %d", ups, bottom)
	}
	for s := range int64(1) << n {
		want := bottom
		for _, rank := range membersByHalving(s) {
			want = leastAbove(in, n, want, rank)
		}
		if got := impl.JoinAll(o, s); got != want {
			t.Errorf("JoinAll(%v, %d) = %d, want %d", ups, s, got, want)
		}
	}
	if got := impl.JoinAll(o, 1<<n); got != -1 {
		t.Errorf("JoinAll(%v, %d) = %d, want -1", ups, 1<<n, got)
	}
}

// There are 1, 2, 6 and 36 lattices of 1 to 4 ranks that are told apart.
func TestEveryLatticeOfUpToFourRanks(t *testing.T) {
	for k, want := range []int{1, 2, 6, 36} {
		count := 0
		everyUps(k+1, func(ups []int64) {
			if orderByRule(ups) && checkLattice(t, ups) {
				count++
			}
		})
		if count != want {
			t.Errorf("%d lattices of %d ranks, want %d", count, k+1, want)
		}
	}
}

// everyRising calls f with each order of n ranks in which nobody is below one
// of a lesser number; all others are these with their ranks renamed.
func everyRising(n int, f func(ups []int64)) {
	ups := make([]int64, n)
	var fill func(k int)
	fill = func(k int) {
		if k < 0 {
			if orderByRule(ups) {
				f(ups)
			}
			return
		}
		for above := range int64(1) << (n - 1 - k) {
			ups[k] = (2*above + 1) << k
			fill(k - 1)
		}
	}
	fill(n - 1)
}

// renamed gives rank k of ups the name names[k].
func renamed(ups []int64, names []int64) []int64 {
	out := make([]int64, len(ups))
	for a, s := range ups {
		for _, b := range membersByHalving(s) {
			out[names[a]] += 1 << names[b]
		}
	}
	return out
}

func TestLatticesOfFiveAndSixRanks(t *testing.T) {
	for n, names := range map[int][][]int64{
		5: {{4, 3, 2, 1, 0}, {2, 4, 1, 0, 3}, {1, 2, 0, 4, 3}},
		6: {{5, 4, 3, 2, 1, 0}, {3, 0, 5, 1, 4, 2}},
	} {
		everyRising(n, func(ups []int64) {
			lattice := checkLattice(t, ups)
			for _, others := range names {
				if checkLattice(t, renamed(ups, others)) != lattice {
					t.Fatalf("%v renamed by %v: a lattice in one of the two alone", ups, others)
				}
			}
		})
	}
}

// There are 357 and 4824 orders of five and six ranks that rise.
func TestEveryRisingIsEnough(t *testing.T) {
	for n, want := range map[int]int{1: 1, 2: 2, 3: 7, 4: 40, 5: 357, 6: 4824} {
		count := 0
		everyRising(n, func([]int64) { count++ })
		if count != want {
			t.Errorf("%d rising orders of %d ranks, want %d", count, n, want)
		}
	}
}

func TestUpsHandedToLatticesStay(t *testing.T) {
	lists := [][]int64{{}, {0}, {3, 3}, {3, 6, 4}, {1, 2, 4, 8, 16, 32, 64}}
	for _, k := range append(knownLattices(), knownNoLattices()...) {
		o, _ := impl.ReadOrder(k.order)
		lists = append(lists, o.Ups)
	}
	for _, ups := range lists {
		list, room := withSpareRoom(ups)
		before := slices.Clone(room)
		o := impl.Order{Ups: list}
		impl.LatticeOk(o)
		impl.BottomOf(o)
		for s := int64(-1); s <= 64; s++ {
			impl.JoinAll(o, s)
		}
		for a := int64(-1); a <= 6; a++ {
			for b := int64(-1); b <= 6; b++ {
				impl.Join(o, a, b)
				impl.Meet(o, a, b)
			}
		}
		if !slices.Equal(room, before) {
			t.Errorf("the Ups %v and the room behind them became %v", before, room)
		}
	}
}

// What stands in the spare room is no rank of the lattice.
func TestSpareRoomIsNoRankOfALattice(t *testing.T) {
	o := impl.Order{Ups: []int64{15, 10, 12, 8, 16, 32}[:4]}
	if !impl.LatticeOk(o) || impl.Join(o, 1, 4) != -1 || impl.Meet(o, 4, 4) != -1 || impl.JoinAll(o, 16) != -1 {
		t.Errorf("LatticeOk %v, Join(1, 4) %d, Meet(4, 4) %d, JoinAll(16) %d",
			impl.LatticeOk(o), impl.Join(o, 1, 4), impl.Meet(o, 4, 4), impl.JoinAll(o, 16))
	}
}

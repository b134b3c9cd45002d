package impl

import "math/bits"

const maxRanks = 6
const fullSet = 1<<maxRanks - 1

// rankSet is a type of its own so that a set and a rank, both plain numbers
// outside, are not taken for one another inside.
type rankSet int64

func (s rankSet) ok() bool { return s >= 0 && s <= fullSet }

func (s rankSet) has(rank int64) bool {
	return s.ok() && rankOk(rank) && s>>rank&1 == 1
}

func (s rankSet) with(rank int64) rankSet { return s | 1<<rank }

func (s rankSet) size() int64 { return int64(bits.OnesCount64(uint64(s))) }

// rankOk also guards the shifts: Go panics where one is by less than 0.
func rankOk(rank int64) bool { return rank >= 0 && rank < maxRanks }

func ranksWhere(keep func(rank int64) bool) []int64 {
	ranks := []int64{}
	for rank := range int64(maxRanks) {
		if keep(rank) {
			ranks = append(ranks, rank)
		}
	}
	return ranks
}

func foldRanks(n int64, step func(s rankSet, rank int64) rankSet) rankSet {
	var s rankSet
	for rank := range n {
		s = step(s, rank)
	}
	return s
}

func SetOk(s int64) bool { return rankSet(s).ok() }

func InSet(s int64, i int64) bool { return rankSet(s).has(i) }

func Members(s int64) []int64 { return ranksWhere(rankSet(s).has) }

func SizeOf(s int64) int64 {
	if !SetOk(s) {
		return -1
	}
	return rankSet(s).size()
}

func AllOf(n int64) int64 {
	if n < 0 || n > maxRanks {
		return -1
	}
	return int64(foldRanks(n, rankSet.with))
}

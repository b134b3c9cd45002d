package tests

import (
	"math"
	"math/rand"
	"slices"

	"loop.example/g00533/impl"
)

// A maker makes plays, Cores, codes, slots and Halls: of one seed the same ones
// each time. What it makes is mostly right, and wrong now and then.
type maker struct{ *rand.Rand }

func newMaker(seed int64) maker { return maker{rand.New(rand.NewSource(seed))} }

func (m maker) one(l ...string) string { return l[m.Intn(len(l))] }

func (m maker) name() string { return m.one(letters(12)...) }

func (m maker) gate() string { return m.one("0", "1", "2", "3") }

func (m maker) sum(deep int) []string {
	if deep == 0 || m.Intn(3) == 0 {
		return []string{m.one(m.name(), m.name(), "0", "1", "-1", "3", "2147483647", "-2147483648")}
	}
	return slices.Concat([]string{m.one("+", "-", "*", "/", "<", "=")}, m.sum(deep-1), m.sum(deep-1))
}

func (m maker) list(deep int) []string {
	return slices.Concat([]string{"["}, m.deeds(m.Intn(4), deep), []string{"]"})
}

func (m maker) deed(deep int) []string {
	kind := m.Intn(12)
	switch {
	case kind < 3:
		return append([]string{"set", m.name()}, m.sum(3)...)
	case kind < 5:
		return []string{"in", m.name(), m.gate()}
	case kind < 8:
		return append([]string{"out", m.gate()}, m.sum(2)...)
	case kind < 10 && deep > 0:
		return slices.Concat([]string{"if"}, m.sum(2), m.list(deep-1), m.list(deep-1))
	case kind < 11 && deep > 0:
		return slices.Concat([]string{"while"}, m.sum(2), m.list(deep-1))
	case kind == 11 && m.Intn(4) == 0:
		return []string{"stop"}
	}
	return []string{"in", m.name(), m.gate()}
}

func (m maker) deeds(count int, deep int) []string {
	l := []string{}
	for range count {
		l = append(l, m.deed(deep)...)
	}
	return l
}

func (m maker) number(l ...int64) int64 { return l[m.Intn(len(l))] }

func (m maker) words(sizes ...int64) []int64 {
	l := []int64{}
	for range m.number(sizes...) {
		l = append(l, m.number(0, 0, 1, -1, 2, 7, -300, leastWord, greatestWord))
	}
	if len(l) > 0 && m.Intn(40) == 0 {
		l[m.Intn(len(l))] = m.number(noWords()...)
	}
	return l
}

func (m maker) core() impl.Core {
	c := impl.Core{At: m.number(0, 0, 1, 2, 3, 4, 5), Pile: m.words(0, 1, 2, 3, 4, 59, 60)}
	c.Boxes = manyBoxes(int(m.number(0, 1, 3, 11, 12, 12)))
	for range 4 {
		c.Reads = append(c.Reads, m.number(0, 1, 2, 3, 39, 40, 99999, 100000))
	}
	switch m.Intn(40) {
	case 0:
		c.At = m.number(-1, 6, 299, 300, 301, math.MinInt64, math.MaxInt64)
	case 1:
		c.Pile = m.words(61, 62)
	case 2:
		c.Boxes = manyBoxes(13)
	case 3:
		c.Reads[m.Intn(4)] = m.number(-1, 100001, math.MinInt64, math.MaxInt64)
	case 4:
		c.Reads = m.words(0, 3, 4, 5)
	case 5, 6:
		c.Code = m.number(1, 2, 3, 4, -1, 5)
	}
	return c
}

func (m maker) op() impl.Op {
	place := m.number(0, 1, 2, 3, 4, 5, 6, 300)
	switch m.Intn(12) {
	case 0:
		return push(m.number(0, 1, -5, leastWord, greatestWord))
	case 1:
		return load(m.one(letters(14)...))
	case 2, 3:
		return do(m.number(1, 2, 3, 4, 4, 5, 6))
	case 4:
		return set(m.one(letters(14)...))
	case 5, 6:
		return in(m.one(letters(14)...), m.number(0, 1, 2, 3))
	case 7:
		return out(m.number(0, 1, 2, 3))
	case 8:
		return goTo(place)
	case 9:
		return unless(place)
	case 10:
		return stop()
	}
	return end()
}

func (m maker) code() []impl.Op {
	code := []impl.Op{}
	for range m.number(5, 6, 6, 6, 6, 300) {
		code = append(code, m.op())
	}
	switch m.Intn(60) {
	case 0:
		code[m.Intn(len(code))] = wrongOps()[m.Intn(len(wrongOps()))]
	case 1:
		code = slices.Repeat([]impl.Op{m.op()}, 301)
	case 2:
		code = nil
	}
	return code
}

func (m maker) slots() [][]int64 {
	slots := [][]int64{}
	for range m.number(1, 2, 3, 4, 4, 4, 4) {
		slots = append(slots, m.words(0, 1, 2, 3, 40))
	}
	switch m.Intn(80) {
	case 0:
		slots = nil
	case 1:
		slots = make([][]int64, 5)
	case 2:
		slots[0] = m.words(41)
	}
	return slots
}

func (m maker) hall() impl.Hall {
	h := impl.Hall{Slots: m.slots()}
	lattices, others := knownLattices(), knownNoLattices()
	h.Order, _ = impl.ReadOrder(lattices[m.Intn(len(lattices))].order)
	if m.Intn(40) == 0 {
		h.Order, _ = impl.ReadOrder(others[m.Intn(len(others))].order)
	}
	for range h.Slots {
		h.Gates = append(h.Gates, int64(m.Intn(len(h.Order.Ups))))
	}
	switch m.Intn(80) {
	case 0:
		h.Gates = append(h.Gates, 0)
	case 1:
		h.Gates = h.Gates[:len(h.Gates)/2]
	case 2:
		h.Gates = []int64{m.number(-1, 6, int64(len(h.Order.Ups)))}
	}
	return h
}

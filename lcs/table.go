package lcs

import (
	"cmp"
	"math"
	"math/bits"
	"slices"
)

// table tells how long the longest common row is of each rest of a and one rest of b.
//
// One line more at the beginning of a rest of a makes that row one longer, or no longer: then the line is idle. So a bit for each line of a is enough, and a line of b turns the bits of 64 of them at once. What it turned is noted, that it can be taken back: the bits of all rests of b would be too many.
type table struct {
	marks [][]mark // where a has the lines of each sort
	sorts []int    // of which sort each line of b is
	ahead int      // how many more lines a has than b
	wide  int      // so many Del and Ins are reckoned with
	at    int      // where the rest of b begins
	idles []uint64 // a bit for each line of a, the last one's first; those that are not here are set
	turns []turn   // what was turned since the last stop
	most  int      // with more turns than that, a stop is made
	stops []stop
}

// mark is the lines of a that are of one sort, in one word of idles.
type mark struct {
	word int
	bits uint64
}

// turn is a word of idles as it was, ahead of the line of b that turned it.
type turn struct {
	at, word int
	was      uint64
}

// stop is idles as they were at a rest of b.
type stop struct {
	at    int
	idles []uint64
}

// common makes the table of a and all of b.
func common(a, b []string) *table {
	// With eight turns a line, turns and stops take about as much room as each other where the rows are long.
	t := &table{ahead: len(a) - len(b), most: 8 * len(a)}
	known := t.know(a)
	for _, line := range b {
		t.sorts = append(t.sorts, known[line])
	}
	// Rows that are nearly the same are the most common ones: where few lines are turned, few places need be looked at.
	for t.wide = max(t.ahead, -t.ahead) + 64; ; t.wide *= 4 {
		t.begin()
		t.goTo(0)
		if len(a)+len(b)-2*t.long() <= t.wide {
			return t
		}
	}
}

// know notes where a has its lines, and answers of which sort each is; sort 0 is left for lines that a has not.
func (t *table) know(a []string) map[string]int {
	known := map[string]int{}
	t.marks = append(t.marks, nil)
	for at, line := range slices.Backward(a) {
		sort, is := known[line]
		if !is {
			sort = len(t.marks)
			known[line] = sort
			t.marks = append(t.marks, nil)
		}
		t.marks[sort] = with(t.marks[sort], len(a)-1-at)
	}
	return known
}

// with answers the marks with one line more, that has so many behind it: more than those before it.
func with(l []mark, behind int) []mark {
	word, bit := behind/64, uint64(1)<<(behind%64)
	if n := len(l); n > 0 && l[n-1].word == word {
		l[n-1].bits |= bit
		return l
	}
	return append(l, mark{word, bit})
}

// begin goes to where nothing is left of b.
func (t *table) begin() {
	t.at, t.idles, t.turns = len(t.sorts), t.idles[:0], t.turns[:0]
	t.stops = append(t.stops[:0], stop{at: t.at})
}

// goTo takes lines of b to its rest, until that begins there.
func (t *table) goTo(there int) {
	for t.at > there {
		if len(t.turns) > t.most {
			t.stops = append(t.stops, stop{t.at, slices.Clone(t.idles)})
			t.turns = t.turns[:0]
		}
		t.at--
		t.add(t.near(t.marks[t.sorts[t.at]]))
	}
}

// near answers those marks that may be of use: what has any other line of a in a row with this one of b needs more than wide Del and Ins.
func (t *table) near(marks []mark) []mark {
	behind := len(t.sorts) - 1 - t.at
	from := behind + (t.ahead-t.wide)>>1
	to := behind + (t.ahead+t.wide)>>1
	first, _ := slices.BinarySearchFunc(marks, from/64, mark.against)
	end, _ := slices.BinarySearchFunc(marks, to/64+1, mark.against)
	return marks[first:end]
}

// against tells whether the mark's word is ahead of another (below 0), is that, or is behind it.
func (m mark) against(word int) int { return cmp.Compare(m.word, word) }

// add does to idles what a line of b does that a has at these marks.
//
// The k-th line that is not idle, from the end of a on, is where the shortest rest of a begins that has k lines in common with the rest of b. With a line more of b it can begin nearer to the end: at the first mark beyond the (k-1)-th such line. So from each line that is not idle to the next one, the first mark is not idle any more, and the next one is. That is what the sum of idles and marks turns, as its carry goes on to the next bit that is not set; what else it turns is set again.
func (t *table) add(marks []mark) {
	next, carry := 0, uint64(0)
	for _, m := range marks {
		for len(t.idles) <= m.word {
			t.idles = append(t.idles, math.MaxUint64)
		}
		carry = t.pass(next, m.word, carry)
		carry = t.word(m.word, m.bits, carry)
		next = m.word + 1
	}
	// Where there are no bits yet, all are set: a carry turns none of them.
	t.pass(next, len(t.idles), carry)
}

// pass takes a carry on through words without marks, and answers what is left of it.
func (t *table) pass(from, to int, carry uint64) uint64 {
	for ; carry != 0 && from < to; from++ {
		carry = t.word(from, 0, carry)
	}
	return carry
}

// word turns one word, and answers the carry.
func (t *table) word(at int, marks, carry uint64) uint64 {
	was := t.idles[at]
	sum, over := bits.Add64(was, was&marks, carry)
	if now := sum | was&^marks; now != was {
		t.turns = append(t.turns, turn{t.at, at, was})
		t.idles[at] = now
	}
	return over
}

// back takes the first line from the rest of b.
func (t *table) back() {
	if t.at == t.stops[len(t.stops)-1].at {
		t.again()
	}
	for n := len(t.turns); n > 0 && t.turns[n-1].at == t.at; n-- {
		t.idles[t.turns[n-1].word] = t.turns[n-1].was
		t.turns = t.turns[:n-1]
	}
	t.at++
}

// again notes once more what was turned ahead of the last stop: it goes there from the one before it.
func (t *table) again() {
	there := t.at
	t.stops = t.stops[:len(t.stops)-1]
	from := t.stops[len(t.stops)-1]
	t.at, t.idles = from.at, append(t.idles[:0], from.idles...)
	t.goTo(there)
}

// idle tells whether the line of a that has so many behind it is idle.
func (t *table) idle(behind int) bool {
	word := behind / 64
	return word >= len(t.idles) || t.idles[word]>>(behind%64)&1 == 1
}

// long answers how long the longest common row of all of a and the rest of b is.
func (t *table) long() int {
	n := 0
	for _, word := range t.idles {
		n += bits.OnesCount64(^word)
	}
	return n
}

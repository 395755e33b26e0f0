package nfa_test

import (
	"math/rand/v2"
	"regexp"
	"strconv"
	"strings"
	"testing"

	"patchwork/api"
	"patchwork/nfa"
)

// What is read here slowly, by the words of the chapter, the package must answer.

// places of a text: bit i is the place behind i bytes.
type places uint64

// slowTakes answers where a node comes to from some places on.
func slowTakes(n api.Node, s string, from places) places {
	var to places
	switch n.Kind {
	case api.NEmpty:
		to = from
	case api.NSet:
		for i := range len(s) {
			if n.Set[s[i]>>6]&(1<<(s[i]&63)) != 0 {
				to |= from & (1 << i) << 1
			}
		}
	case api.NCat:
		to = from
		for _, k := range n.Kids {
			to = slowTakes(k, s, to)
		}
	case api.NAlt:
		for _, k := range n.Kids {
			to |= slowTakes(k, s, from)
		}
	case api.NTimes:
		to = slowTimes(n, s, from)
	case api.NBegin:
		to = from & 1
	case api.NEnd:
		to = from & (1 << len(s))
	}
	return to
}

// slowTimes takes a node's kid once more and once more.
func slowTimes(n api.Node, s string, from places) places {
	for range n.Min {
		from = slowTakes(n.Kids[0], s, from)
	}
	to := from
	for k := n.Min; k != n.Max; k++ {
		from = slowTakes(n.Kids[0], s, from)
		if n.Max < 0 && to|from == to {
			break
		}
		to |= from
		if n.Max < 0 {
			from = to
		}
	}
	return to
}

// slowLook answers what Matches and what Finds must answer.
func slowLook(n api.Node, s string) (whole, found bool) {
	every := places(1)<<(len(s)+1) - 1
	return slowTakes(n, s, 1)>>len(s)&1 == 1, slowTakes(n, s, every) != 0
}

// check holds both calls against the slow reading, and counts what is taken.
func check(t *testing.T, n api.Node, s string, count *[3]int) {
	t.Helper()
	whole, found := slowLook(n, s)
	if got := nfa.Matches(n, s); got != whole {
		t.Fatalf("P701: Matches(%s, %q): %v", write(n), s, got)
	}
	if got := nfa.Finds(n, s); got != found {
		t.Fatalf("P701: Finds(%s, %q): %v", write(n), s, got)
	}
	switch {
	case whole:
		count[all]++
	case found:
		count[some]++
	default:
		count[nope]++
	}
}

// write writes a node as package regexp reads it, if its bytes are below 128.
func write(n api.Node) string {
	var kids []string
	for _, k := range n.Kids {
		kids = append(kids, write(k))
	}
	switch n.Kind {
	case api.NSet:
		return writeSet(n)
	case api.NCat:
		return "(?:" + strings.Join(kids, "") + ")"
	case api.NAlt:
		return "(?:" + strings.Join(kids, "|") + ")"
	case api.NTimes:
		high := ""
		if n.Max >= 0 {
			high = strconv.Itoa(n.Max)
		}
		return "(?:" + kids[0] + "){" + strconv.Itoa(n.Min) + "," + high + "}"
	case api.NBegin:
		return `\A`
	case api.NEnd:
		return `\z`
	}
	return "(?:)"
}

func writeSet(n api.Node) string {
	bytes := ""
	for k := range 128 {
		if n.Set[k/64]>>(k%64)&1 == 1 {
			bytes += `\x{` + strconv.FormatInt(int64(k), 16) + "}"
		}
	}
	if bytes == "" {
		return `[^\x{0}-\x{10FFFF}]`
	}
	return "[" + bytes + "]"
}

// texts answers all texts of some bytes up to a length.
func texts(bytes string, most int) []string {
	l := []string{""}
	for at := 0; at < len(l) && len(l[at]) < most; at++ {
		for i := range len(bytes) {
			l = append(l, l[at]+bytes[i:i+1])
		}
	}
	return l
}

// around answers all nodes that have one or two of some within them.
func around(l []api.Node) []api.Node {
	var out []api.Node
	for _, x := range l {
		for _, y := range l {
			out = append(out, cat(x, y), alt(x, y))
		}
		for _, r := range [][2]int{{0, 0}, {0, 1}, {0, -1}, {1, 1}, {1, -1}, {2, 2}, {1, 2}, {2, -1}} {
			out = append(out, times(x, r[0], r[1]))
		}
	}
	return out
}

// Each kind of node stands within each other, on both sides, two deep.
func TestAllSmallNodes(t *testing.T) {
	leaves := []api.Node{none, a, of("ab"), leaf(api.NSet), begin, end}
	inner := append(around(leaves), leaves...)
	var count [3]int
	short := texts("ab", 3)
	for _, n := range append(around(inner), inner...) {
		for _, s := range short {
			check(t, n, s, &count)
		}
	}
	for _, n := range inner {
		for _, s := range texts("ab\n", 5) {
			check(t, n, s, &count)
		}
	}
	if min(count[nope], count[some], count[all]) < 50000 {
		t.Errorf("P701: only %v", count)
	}
}

// chance makes nodes and texts.
type chance struct{ *rand.Rand }

func (r chance) node(deep int) api.Node {
	k := r.IntN(12)
	if deep == 0 {
		k = r.IntN(6)
	}
	kids := func() []api.Node {
		l := make([]api.Node, 2+r.IntN(3))
		for i := range l {
			l[i] = r.node(deep - 1)
		}
		return l
	}
	switch k {
	case 0:
		return []api.Node{none, begin, end}[r.IntN(3)]
	case 6, 7:
		return cat(kids()...)
	case 8, 9:
		return alt(kids()...)
	case 10, 11:
		low := r.IntN(4)
		return times(r.node(deep-1), low, []int{-1, low, low + r.IntN(4)}[r.IntN(3)])
	}
	return of([]string{"a", "b", "ab", "\nc", "\x00\x7f"}[r.IntN(5)])
}

func (r chance) text(most int) string {
	out := make([]byte, r.IntN(most+1))
	for i := range out {
		out[i] = "aaaabbbc\n\x00\x7f"[r.IntN(11)]
	}
	return string(out)
}

func TestNodesByChance(t *testing.T) {
	r := chance{rand.New(rand.NewPCG(7, 1))}
	var count [3]int
	for range 4000 {
		n := r.node(1 + r.IntN(4))
		for range 10 {
			check(t, n, r.text(7), &count)
		}
	}
	if min(count[nope], count[some], count[all]) < 3000 {
		t.Errorf("P701: only %v", count)
	}
}

// Package regexp looks for the same, as long as bytes are below 128.
func TestAsRegexpDoes(t *testing.T) {
	r := chance{rand.New(rand.NewPCG(7, 2))}
	for range 1500 {
		n := r.node(1 + r.IntN(4))
		finds, err := regexp.Compile(write(n))
		if err != nil {
			t.Fatal(err)
		}
		matches := regexp.MustCompile(`\A(?:` + write(n) + `)\z`)
		for range 10 {
			s := r.text(40)
			if got := nfa.Matches(n, s); got != matches.MatchString(s) {
				t.Fatalf("P701: Matches(%s, %q): %v", write(n), s, got)
			}
			if got := nfa.Finds(n, s); got != finds.MatchString(s) {
				t.Fatalf("P701: Finds(%s, %q): %v", write(n), s, got)
			}
		}
	}
}

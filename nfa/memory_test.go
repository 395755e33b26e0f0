package nfa_test

import (
	"slices"
	"sync"
	"testing"
	"unsafe"

	"patchwork/api"
	"patchwork/ere"
	"patchwork/nfa"
)

// samples lists nodes of all kinds, and some that are not Right.
func samples(t *testing.T) []api.Node {
	l := append(wrong(), none, begin, end, a, leaf(api.NSet), within(a, 30))
	for _, e := range []string{"abc", "a|bc|", "(a|b)*c{2,3}", "^(ab?)+$", "[^a]", "(a*)*b", "(^|a){3}", "(a|b|$){2,}", "a{0}", "(a?){20}c"} {
		n, _, errno := ere.Parse(e)
		if errno != api.OK {
			t.Fatal(e, errno)
		}
		l = append(l, n)
	}
	return l
}

// answers is what Matches and Finds answer.
type answers struct{ whole, found bool }

func ask(n api.Node, s string) answers { return answers{nfa.Matches(n, s), nfa.Finds(n, s)} }

// wanted answers what must be answered.
func wanted(n api.Node, s string) answers {
	if !ere.Right(n) {
		return answers{}
	}
	whole, found := slowLook(n, s)
	return answers{whole, found}
}

// What was kept of a text would still be answered when its bytes change.
func TestTextIsNeitherKeptNorChanged(t *testing.T) {
	const was = "xxabcc---"
	room := []byte(was)
	s := unsafe.String(&room[0], 6)
	found, whole := cat(a, b, c), cat(of("x"), of("x"), a, b, c, c)
	for _, n := range []api.Node{found, whole} {
		if got := ask(n, s); got != (answers{len(n.Kids) == 6, true}) || string(room) != was {
			t.Errorf("P702: of %q: %v; %q is left", was, got, room)
		}
	}
	room[3] = 'x'
	for _, n := range []api.Node{found, whole} {
		if got := ask(n, s); got != (answers{}) || string(room) != "xxaxcc---" {
			t.Errorf("P702: of bytes that have changed: %v; %q is left", got, room)
		}
	}
	room[3] = 'b'
	for _, n := range []api.Node{found, whole} {
		if got := ask(n, s); got != (answers{len(n.Kids) == 6, true}) {
			t.Errorf("P702: of bytes that have changed back: %v", got)
		}
	}
}

// same tells whether two nodes are the same.
func same(a, b api.Node) bool {
	return a.Kind == b.Kind && a.Set == b.Set && a.Min == b.Min && a.Max == b.Max && slices.EqualFunc(a.Kids, b.Kids, same)
}

// spare is what stands in the spare room of each list.
func spare() []api.Node {
	return []api.Node{times(cat(a, b), 7, 7), {Kind: 99, Min: 5}}
}

// roomy copies a node into lists of its own, with spare room that is filled.
func roomy(n api.Node) api.Node {
	var kids []api.Node
	for _, k := range n.Kids {
		kids = append(kids, roomy(k))
	}
	n.Kids = append(kids, spare()...)[:len(n.Kids)]
	return n
}

// untouched tells whether a node that roomy made, and its spare room, are as they were.
func untouched(n, was api.Node) bool {
	if n.Kind != was.Kind || n.Set != was.Set || n.Min != was.Min || n.Max != was.Max || len(n.Kids) != len(was.Kids) {
		return false
	}
	return slices.EqualFunc(n.Kids[:len(n.Kids)+2][len(n.Kids):], spare(), same) && slices.EqualFunc(n.Kids, was.Kids, untouched)
}

func TestNodesAreNotChanged(t *testing.T) {
	for _, was := range samples(t) {
		n := roomy(was)
		for _, s := range texts("abc", 4) {
			if got := ask(n, s); got != wanted(was, s) {
				t.Errorf("P702: with spare room: %v, %q: %v", was, s, got)
			}
		}
		if !untouched(n, was) {
			t.Errorf("P702: what was handed in has become %v", n)
		}
	}
}

// What was kept of a node would still be answered when the node changes.
func TestNodesAreNotKept(t *testing.T) {
	kids := []api.Node{a, times(b, 1, 2), alt(a, c)}
	n := cat(kids...)
	turns := []func(){
		func() {},
		func() { kids[0] = c },
		func() { kids[1].Kids[0] = a },
		func() { kids[1].Min = 0 },
		func() { kids[2].Kids[1] = end },
		func() { kids[2].Kind = api.NCat },
		func() { kids[2].Kids[0] = api.Node{} },
		func() { kids[2] = begin },
		func() { kids[0], kids[1] = none, times(begin, 0, -1) },
	}
	for i, turn := range turns {
		turn()
		for _, s := range texts("abc", 4) {
			if got := ask(n, s); got != wanted(n, s) {
				t.Errorf("P702: turn %d, %q: %v", i, s, got)
			}
		}
	}
}

func TestAnswersHangOnArgumentsAlone(t *testing.T) {
	l := samples(t)
	for _, n := range l {
		for _, other := range l {
			ask(other, "aabcc")
			for _, s := range []string{"", "a", "abc", "aab", "cbaab"} {
				if got := ask(n, s); got != wanted(n, s) {
					t.Errorf("P702: %v, %q: %v", n, s, got)
				}
			}
		}
	}
}

func TestCallsSideBySide(t *testing.T) {
	l := samples(t)
	var all sync.WaitGroup
	for range 8 {
		all.Go(func() {
			for _, n := range l {
				for _, s := range texts("abc", 3) {
					if got := ask(n, s); got != wanted(n, s) {
						t.Errorf("P702: side by side: %v, %q: %v", n, s, got)
					}
				}
			}
		})
	}
	all.Wait()
}

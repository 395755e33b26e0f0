package ere_test

import (
	"slices"
	"sync"
	"testing"
	"unsafe"

	"patchwork/api"
	"patchwork/ere"
)

// samples lists expressions of all kinds, some that are none.
func samples() []string {
	return []string{
		"", "a", "abc", "a|b|", "(a|b)*c{2,3}", "((a)(b))+", "^.$", "[^]a-c[:digit:]]", "\\(\\)", "a***", "((ab|c)(ab|c)|ab){2}",
		"*", "a)", "(a", "[a", "a\\", "a{3,2}", many("(", 31), many("a", 1001), "a{200}{200}",
		many("(a|b)", 150), many("(", 30) + many(")|a", 30),
	}
}

// An answer that was kept would stay when the bytes that were handed in change.
func TestTextIsNeitherKeptNorChanged(t *testing.T) {
	const was = "(x[a-c]*|\\b){2}yz"
	room := []byte(was)
	s := unsafe.String(&room[0], 15)
	want := times(alt(cat(of("x"), times(of("abc"), 0, -1)), b), 2, 2)
	first, at, e := ere.Parse(s)
	if !same(first, want) || at != -1 || e != api.OK || string(room) != was {
		t.Fatalf("P603: Parse(%q): %v, %d, %v; %q is left", was, first, at, e, room)
	}
	room[1], room[5], room[13] = 'y', 'd', '3'
	if !same(first, want) {
		t.Errorf("P603: an answer has become %v", first)
	}
	want = times(alt(cat(of("y"), times(of("abcd"), 0, -1)), b), 3, 3)
	if got, at, e := ere.Parse(s); !same(got, want) || at != -1 || e != api.OK {
		t.Errorf("P603: Parse(%q) answers %v, %d, %v", s, got, at, e)
	}
}

// roomy copies a node into lists of its own, with spare room that is filled.
func roomy(n api.Node) api.Node {
	var kids []api.Node
	for _, k := range n.Kids {
		kids = append(kids, roomy(k))
	}
	kids = append(kids, times(cat(a, b), 7, 7), api.Node{Kind: 99, Min: 5})
	n.Kids = kids[:len(n.Kids)]
	return n
}

// untouched tells whether a node that roomy made, and its spare room, are as they were.
func untouched(n, was api.Node) bool {
	spare := []api.Node{times(cat(a, b), 7, 7), {Kind: 99, Min: 5}}
	if n.Kind != was.Kind || n.Set != was.Set || n.Min != was.Min || n.Max != was.Max || len(n.Kids) != len(was.Kids) {
		return false
	}
	return slices.EqualFunc(n.Kids[:len(n.Kids)+2][len(n.Kids):], spare, same) && slices.EqualFunc(n.Kids, was.Kids, untouched)
}

func TestNodesAreNotChanged(t *testing.T) {
	nodes := []api.Node{{}, leaf(8), cat(), times(a, 5, 3), times(times(a, 200, 200), 200, 200), cat(a, leaf(9)), within(a, 200), within(a, 201)}
	for _, s := range samples() {
		n, _, _ := ere.Parse(s)
		nodes = append(nodes, n)
	}
	for _, was := range nodes {
		n := roomy(was)
		ere.Right(n)
		ere.Size(n)
		for k := range 256 {
			ere.Has(n, byte(k))
		}
		if !untouched(n, was) {
			t.Errorf("P603: what was handed in has become %v", n)
		}
		check(t, "P603", n)
	}
}

// lists answers all lists of a node, with their spare room.
func lists(n api.Node) [][]api.Node {
	var out [][]api.Node
	if cap(n.Kids) > 0 {
		out = append(out, n.Kids[:cap(n.Kids)])
	}
	for _, k := range n.Kids {
		out = append(out, lists(k)...)
	}
	return out
}

// No two lists share a place, neither of one answer nor of two.
func TestAnswersAreNewMemory(t *testing.T) {
	places := map[*api.Node]int{}
	var kept []api.Node
	for i, s := range append(samples(), samples()...) {
		n, _, _ := ere.Parse(s)
		kept = append(kept, n)
		for _, l := range lists(n) {
			for k := range l {
				if j, ok := places[&l[k]]; ok {
					t.Fatalf("P603: answers %d and %d share a list", j, i)
				}
				places[&l[k]] = i
			}
		}
	}
	if len(places) < 1000 {
		t.Errorf("P603: %d places", len(places))
	}
	for _, n := range kept {
		for _, l := range lists(n) {
			clear(l)
		}
	}
	for _, s := range samples() {
		held(t, "P603", s)
	}
}

func TestAnswersHangOnArgumentsAlone(t *testing.T) {
	for _, s := range samples() {
		for _, other := range samples() {
			n, _, _ := ere.Parse(other)
			ere.Right(n)
			ere.Size(n)
			held(t, "P603", s)
		}
	}
}

func TestCallsSideBySide(t *testing.T) {
	shared := within(cat(a, b), 100)
	var all sync.WaitGroup
	for range 8 {
		all.Go(func() {
			for _, s := range samples() {
				held(t, "P603", s)
				check(t, "P603", shared)
			}
		})
	}
	all.Wait()
}

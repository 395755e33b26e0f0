package nfa_test

import (
	"math"
	"strings"
	"testing"

	"patchwork/api"
	"patchwork/ere"
	"patchwork/nfa"
)

// of makes a node of the bytes of a text.
func of(s string) api.Node {
	n := api.Node{Kind: api.NSet}
	for i := range len(s) {
		n.Set[s[i]/64] |= 1 << (s[i] % 64)
	}
	return n
}

func leaf(kind int) api.Node     { return api.Node{Kind: kind} }
func cat(l ...api.Node) api.Node { return api.Node{Kind: api.NCat, Kids: l} }
func alt(l ...api.Node) api.Node { return api.Node{Kind: api.NAlt, Kids: l} }
func times(n api.Node, l, h int) api.Node {
	return api.Node{Kind: api.NTimes, Kids: []api.Node{n}, Min: l, Max: h}
}

// many answers a text so often.
func many(s string, n int) string { return strings.Repeat(s, n) }

// one makes a text of a byte.
func one(n int) string { return string([]byte{byte(n)}) }

var none, begin, end, a, b, c = leaf(api.NEmpty), leaf(api.NBegin), leaf(api.NEnd), of("a"), of("b"), of("c")

// How much of a text a node takes.
const (
	all  = 2 // all of it
	some = 1 // some stretch of it, not all
	nope = 0 // no stretch of it
)

// taken is a node with how much of texts it takes.
type taken struct {
	n    api.Node
	want map[string]int
}

// each holds Matches and Finds against what is listed.
func each(t *testing.T, l []taken) {
	t.Helper()
	for i, x := range l {
		if !ere.Right(x.n) {
			t.Errorf("%d: not Right", i)
		}
		for s, want := range x.want {
			if got := nfa.Matches(x.n, s); got != (want == all) {
				t.Errorf("P701: %d: Matches of %.60q: %v", i, s, got)
			}
			if got := nfa.Finds(x.n, s); got != (want != nope) {
				t.Errorf("P701: %d: Finds of %.60q: %v", i, s, got)
			}
		}
	}
}

func TestNothing(t *testing.T) {
	each(t, []taken{
		{none, map[string]int{"": all, "a": some, "ab": some, "\n": some, "\x00": some, "\xff": some, many("a", 1000): some}},
	})
}

// Each byte is in a set of its own, and in no other.
func TestSetOfEachByte(t *testing.T) {
	for k := range 256 {
		n := api.Node{Kind: api.NSet}
		n.Set[k/64] = 1 << (k % 64)
		for other := range 256 {
			want := other == k
			if got := nfa.Matches(n, one(other)); got != want {
				t.Errorf("P701: set of %d: Matches of byte %d: %v", k, other, got)
			}
			if got := nfa.Finds(n, one(other)); got != want {
				t.Errorf("P701: set of %d: Finds of byte %d: %v", k, other, got)
			}
			// Other bytes around it are of no account.
			x := one(k + 1)
			if got := nfa.Finds(n, x+x+one(other)+x); got != want {
				t.Errorf("P701: set of %d: Finds of byte %d within others: %v", k, other, got)
			}
		}
		each(t, []taken{{n, map[string]int{"": nope, one(k) + one(k): some, one(k) + one(k+1): some, one(k+1) + one(k): some}}})
	}
}

func TestSets(t *testing.T) {
	full := api.Node{Kind: api.NSet, Set: [4]uint64{math.MaxUint64, math.MaxUint64, math.MaxUint64, math.MaxUint64}}
	empty := api.Node{Kind: api.NSet}
	for k := range 256 {
		each(t, []taken{
			{full, map[string]int{one(k): all, one(k) + one(k): some}},
			{empty, map[string]int{one(k): nope, one(k) + one(k): nope}},
		})
		// Each word of a set alone.
		for word := range 4 {
			n := api.Node{Kind: api.NSet}
			n.Set[word] = math.MaxUint64
			want := nope
			if k/64 == word {
				want = all
			}
			each(t, []taken{{n, map[string]int{one(k): want}}})
		}
	}
	each(t, []taken{
		{full, map[string]int{"": nope}},
		{empty, map[string]int{"": nope}},
		{a, map[string]int{"": nope, "a": all, "b": nope, "A": nope, "aa": some, "ab": some, "ba": some, "bab": some, "bb": nope}},
		{of("abc"), map[string]int{"": nope, "a": all, "b": all, "c": all, "d": nope, "ab": some, "dcd": some}},
		{of("\x00\n?@\x7f\x80\xbf\xc0\xff"), map[string]int{
			"\x00": all, "\x01": nope, "\t": nope, "\n": all, "\v": nope, ">": nope, "?": all, "@": all, "A": nope, "~": nope,
			"\x7f": all, "\x80": all, "\x81": nope, "\xbe": nope, "\xbf": all, "\xc0": all, "\xc1": nope, "\xfe": nope, "\xff": all,
		}},
		// A set takes bytes, not letters of several bytes.
		{of("\u00e9"), map[string]int{"\u00e9": some, "\xc3": all, "\xa9": all}},
	})
}

func TestCat(t *testing.T) {
	var letters []api.Node
	for k := range 26 {
		letters = append(letters, of(one('a'+k)))
	}
	const alphabet = "abcdefghijklmnopqrstuvwxyz"
	each(t, []taken{
		{cat(a, b), map[string]int{"": nope, "a": nope, "b": nope, "ab": all, "ba": nope, "aab": some, "abb": some, "abab": some, "axb": nope}},
		{cat(a, b, c), map[string]int{"abc": all, "ab": nope, "bc": nope, "acb": nope, "cba": nope, "abcabc": some, "ababc": some}},
		{cat(a, a), map[string]int{"a": nope, "aa": all, "aaa": some, "aba": nope}},
		{cat(none, none), map[string]int{"": all, "a": some}},
		{cat(none, a), map[string]int{"": nope, "a": all, "ba": some, "b": nope}},
		{cat(a, none), map[string]int{"": nope, "a": all, "ab": some, "b": nope}},
		{cat(a, none, none, b, none), map[string]int{"ab": all, "a": nope, "b": nope, "xaby": some}},
		{cat(cat(a, b), c), map[string]int{"abc": all, "ab": nope, "bc": nope}},
		{cat(a, cat(b, c)), map[string]int{"abc": all, "ab": nope, "bc": nope}},
		{cat(letters...), map[string]int{alphabet: all, alphabet[1:]: nope, alphabet[:25]: nope, "x" + alphabet + "x": some, alphabet[:12] + alphabet[13:]: nope}},
		{cat(alt(a, cat(a, b)), alt(c, cat(b, c, c))), map[string]int{"ac": all, "abc": all, "abcc": all, "abbcc": all, "ab": nope, "bc": nope, "cabcca": some}},
		{cat(times(a, 0, -1), a), map[string]int{"": nope, "a": all, "aaaa": all, "aaab": some, "b": nope}},
		{cat(times(a, 0, 2), times(a, 2, 3)), map[string]int{"a": nope, "aa": all, "aaaaa": all, "aaaaaa": some}},
	})
}

func TestAlt(t *testing.T) {
	var bytes []api.Node
	for k := range 256 {
		bytes = append(bytes, of(one(k)))
	}
	each(t, []taken{
		{alt(a, b), map[string]int{"": nope, "a": all, "b": all, "c": nope, "ab": some, "cb": some, "ca": some}},
		{alt(a, b, c), map[string]int{"a": all, "b": all, "c": all, "d": nope, "abc": some}},
		{alt(a, a), map[string]int{"": nope, "a": all, "aa": some, "b": nope}},
		{alt(none, none), map[string]int{"": all, "a": some}},
		{alt(a, none), map[string]int{"": all, "a": all, "aa": some, "b": some}},
		{alt(none, a), map[string]int{"": all, "a": all, "aa": some, "b": some}},
		// Whichever comes first, none is taken ahead of another.
		{alt(a, cat(a, b), cat(a, b, c)), map[string]int{"a": all, "ab": all, "abc": all, "abcc": some, "b": nope, "bc": nope}},
		{alt(cat(a, b, c), cat(a, b), a), map[string]int{"a": all, "ab": all, "abc": all, "abcc": some, "b": nope, "bc": nope}},
		{alt(times(a, 5, 5), b, times(c, 0, 0)), map[string]int{"": all, "aaaaa": all, "aaaa": some, "b": all, "c": some}},
		{alt(times(a, 3, 3), cat(b, c)), map[string]int{"": nope, "aa": nope, "aaa": all, "b": nope, "c": nope, "bc": all, "aabc": some, "cb": nope}},
		{alt(alt(a, b), alt(b, c)), map[string]int{"a": all, "b": all, "c": all, "d": nope}},
		{alt(bytes...), map[string]int{"": nope, "\x00": all, "\n": all, "z": all, "\xff": all, "zz": some}},
		{alt(bytes[1:255]...), map[string]int{"\x00": nope, "\x01": all, "\xfe": all, "\xff": nope}},
		{alt(begin, a), map[string]int{"": all, "a": all, "b": some, "ba": some}},
		{alt(cat(begin, a), cat(b, end)), map[string]int{"a": all, "b": all, "ab": some, "ba": nope, "ac": some, "cb": some, "cab": some, "cabc": nope}},
	})
}

func TestTimes(t *testing.T) {
	each(t, []taken{
		{times(a, 0, 0), map[string]int{"": all, "a": some, "aa": some, "b": some}},
		{times(a, 0, 1), map[string]int{"": all, "a": all, "aa": some, "b": some}},
		{times(a, 0, 3), map[string]int{"": all, "a": all, "aa": all, "aaa": all, "aaaa": some, "ab": some}},
		{times(a, 1, 1), map[string]int{"": nope, "a": all, "aa": some, "b": nope}},
		{times(a, 1, 3), map[string]int{"": nope, "a": all, "aa": all, "aaa": all, "aaaa": some, "b": nope}},
		{times(a, 2, 3), map[string]int{"": nope, "a": nope, "aa": all, "aaa": all, "aaaa": some, "aba": nope, "baab": some}},
		{times(a, 3, 3), map[string]int{"": nope, "aa": nope, "aaa": all, "aaaa": some, "aabaa": nope}},
		{times(a, 0, -1), map[string]int{"": all, "a": all, "aa": all, many("a", 1000): all, "b": some, "aab": some}},
		{times(a, 1, -1), map[string]int{"": nope, "a": all, "aa": all, many("a", 1000): all, "b": nope, "baab": some}},
		{times(a, 2, -1), map[string]int{"": nope, "a": nope, "aa": all, "aaa": all, "aba": nope, "abaa": some}},
		{times(a, 5, -1), map[string]int{"aaaa": nope, "aaaaa": all, "aaaaaa": all, "aaaabaaaa": nope}},
		{times(cat(a, b), 2, 3), map[string]int{"ab": nope, "abab": all, "ababab": all, "abababab": some, "aba": nope, "baba": nope, "babab": some}},
		{times(cat(a, b), 0, -1), map[string]int{"": all, "ab": all, "abab": all, "aba": some, "ba": some}},
		{times(cat(a, b), 2, -1), map[string]int{"": nope, "ab": nope, "abab": all, "ababab": all, "abaab": nope}},
		{times(alt(a, b), 2, 3), map[string]int{"": nope, "a": nope, "ab": all, "bab": all, "bbbb": some, "acb": nope}},
		{times(alt(a, cat(b, c)), 2, 2), map[string]int{"aa": all, "abc": all, "bca": all, "bcbc": all, "bc": nope, "ac": nope}},
		{times(times(a, 2, 2), 3, 3), map[string]int{"aaaaa": nope, "aaaaaa": all, "aaaaaaa": some}},
		{times(times(a, 2, 3), 2, 2), map[string]int{"aaa": nope, "aaaa": all, "aaaaa": all, "aaaaaa": all, "aaaaaaa": some}},
		{times(times(a, 3, 3), 0, -1), map[string]int{"": all, "a": some, "aa": some, "aaa": all, "aaaa": some, "aaaaaa": all}},
		{times(times(a, 2, -1), 2, -1), map[string]int{"aaa": nope, "aaaa": all, "aaaaa": all, "aaabaaa": nope}},
		{times(times(a, 0, 1), 3, 3), map[string]int{"": all, "aaa": all, "aaaa": some}},
		{cat(times(times(a, 0, 1), 3, 3), times(a, 3, 3)), map[string]int{"aa": nope, "aaa": all, "aaaaaa": all, "aaaaaaa": some, "baaab": some}},
		{cat(a, times(b, 0, 0), c), map[string]int{"ac": all, "abc": nope}},
		{cat(a, times(b, 1, 2), c), map[string]int{"ac": nope, "abc": all, "abbc": all, "abbbc": nope, "aabcc": some}},
	})
}

func TestTimesAtMost(t *testing.T) {
	const m = api.MaxTimes
	less, just, more := many("a", m-1), many("a", m), many("a", m+1)
	each(t, []taken{
		{times(a, m, m), map[string]int{"": nope, less: nope, just: all, more: some, less + "b" + less: nope, "b" + just: some}},
		{times(a, m, -1), map[string]int{"": nope, less: nope, just: all, more: all, less + "b" + less: nope}},
		{times(a, 0, m), map[string]int{"": all, less: all, just: all, more: some}},
		{times(a, m-1, m), map[string]int{less[1:]: nope, less: all, just: all, more: some}},
		{times(none, m, m), map[string]int{"": all, "a": some}},
		{times(times(a, m, m), 2, 3), map[string]int{just: nope, just + less: nope, just + just: all, just + more: some, just + just + just: all, just + just + more: some}},
	})
}

// A kid that takes nothing is taken as often as it must be, and no call hangs.
func TestTimesOfNothing(t *testing.T) {
	for _, low := range []int{0, 1, 2, 200} {
		for _, high := range []int{-1, low, 200} {
			each(t, []taken{
				{times(none, low, high), map[string]int{"": all, "a": some}},
				{times(times(none, 0, -1), low, high), map[string]int{"": all, "a": some}},
				{times(cat(none, none), low, high), map[string]int{"": all, "a": some}},
				{times(begin, low, high), map[string]int{"": all, "a": some}},
				{times(end, low, high), map[string]int{"": all, "a": some}},
				{times(alt(begin, end), low, high), map[string]int{"": all, "a": some}},
				{times(cat(begin, end), low, high), map[string]int{"": all, "a": map[bool]int{true: some, false: nope}[low == 0]}},
			})
		}
	}
	each(t, []taken{
		{times(times(a, 0, -1), 0, -1), map[string]int{"": all, "a": all, "aaa": all, "b": some}},
		{times(times(a, 0, -1), 3, -1), map[string]int{"": all, "a": all, "aaaaa": all, "b": some}},
		{times(times(a, 0, 1), 0, -1), map[string]int{"": all, "aaa": all, "aba": some}},
		{times(times(times(a, 0, -1), 1, -1), 2, 3), map[string]int{"": all, "aaaaa": all, "b": some}},
		{times(alt(none, a), 1, -1), map[string]int{"": all, "a": all, "aa": all, "b": some}},
		{times(alt(none, a), 2, 2), map[string]int{"": all, "a": all, "aa": all, "aaa": some}},
		{cat(times(times(a, 0, -1), 0, -1), b), map[string]int{"": nope, "b": all, "aab": all, "aaa": nope, "ca": nope, "cb": some}},
		{cat(times(none, 0, -1), a, times(none, 3, 5)), map[string]int{"": nope, "a": all, "b": nope, "bab": some}},
	})
}

func TestEnds(t *testing.T) {
	each(t, []taken{
		{begin, map[string]int{"": all, "a": some, "\n": some, "ab": some}},
		{end, map[string]int{"": all, "a": some, "\n": some, "ab": some}},
		{cat(begin, end), map[string]int{"": all, "a": nope, "\n": nope}},
		{cat(end, begin), map[string]int{"": all, "a": nope, "\n": nope}},
		{cat(begin, a), map[string]int{"": nope, "a": all, "ab": some, "aa": some, "ba": nope, "\na": nope}},
		{cat(a, end), map[string]int{"": nope, "a": all, "ab": nope, "aa": some, "ba": some, "a\n": nope}},
		{cat(begin, a, end), map[string]int{"": nope, "a": all, "aa": nope, "ab": nope, "ba": nope}},
		{cat(a, begin), map[string]int{"": nope, "a": nope, "aa": nope}},
		{cat(end, a), map[string]int{"": nope, "a": nope, "aa": nope}},
		{cat(a, begin, b), map[string]int{"ab": nope, "b": nope, "a": nope, "aab": nope}},
		{cat(a, end, b), map[string]int{"ab": nope, "b": nope, "a": nope, "abb": nope}},
		{cat(begin, begin, begin), map[string]int{"": all, "a": some}},
		{cat(end, end, end), map[string]int{"": all, "a": some}},
		{cat(begin, begin, a, end, end), map[string]int{"a": all, "aa": nope, "ba": nope, "": nope}},
		{cat(begin, end, begin, end), map[string]int{"": all, "a": nope}},
		{cat(begin, times(a, 0, -1), end), map[string]int{"": all, "aaa": all, "aab": nope, "baa": nope}},
		{cat(times(a, 0, -1), begin, times(a, 0, -1)), map[string]int{"": all, "aa": all, "b": some, "ab": some}},
		{cat(times(a, 0, -1), end), map[string]int{"": all, "aa": all, "b": some, "ba": some}},
		{cat(alt(begin, a), b), map[string]int{"b": all, "ab": all, "bc": some, "cab": some, "cb": nope, "a": nope}},
		{cat(a, alt(b, end)), map[string]int{"a": all, "ab": all, "ac": nope, "ca": some, "cabc": some}},
	})
}

func TestEndsWithinTimes(t *testing.T) {
	each(t, []taken{
		{times(cat(begin, a), 0, 0), map[string]int{"": all, "a": some, "b": some}},
		{times(cat(begin, a), 0, -1), map[string]int{"": all, "a": all, "aa": some, "ba": some}},
		{times(cat(begin, a), 1, -1), map[string]int{"": nope, "a": all, "aa": some, "ba": nope}},
		{times(cat(begin, a), 2, 2), map[string]int{"": nope, "a": nope, "aa": nope}},
		{times(cat(a, end), 1, 2), map[string]int{"": nope, "a": all, "aa": some, "ab": nope}},
		{times(cat(a, end), 2, 2), map[string]int{"": nope, "a": nope, "aa": nope}},
		{times(alt(a, end), 3, 3), map[string]int{"": all, "a": all, "aa": all, "aaa": all, "aaaa": some, "aab": some}},
		{times(cat(alt(a, end), alt(a, end)), 2, 2), map[string]int{"": all, "aaaa": all, "aaa": all, "aaaaa": some}},
		{times(alt(begin, b), 2, 2), map[string]int{"": all, "b": all, "bb": all, "bbb": some, "a": some}},
		{cat(a, times(alt(begin, b), 2, 2)), map[string]int{"a": nope, "ab": nope, "abb": all, "aabbb": some}},
		{cat(times(alt(end, b), 2, 2), a), map[string]int{"a": nope, "ba": nope, "bba": all, "bbba": some}},
		{cat(times(end, 0, 1), a), map[string]int{"a": all, "ba": some, "": nope}},
		{cat(times(end, 1, -1), a), map[string]int{"a": nope, "": nope}},
		{cat(a, times(begin, 0, -1), b), map[string]int{"ab": all, "a": nope}},
		{cat(a, times(begin, 1, -1), b), map[string]int{"ab": nope}},
		{cat(a, times(begin, 0, 0), b), map[string]int{"ab": all}},
		{cat(times(cat(begin, end), 3, 3), times(a, 0, 1)), map[string]int{"": all, "a": nope}},
	})
}

func TestWhereStretchesStand(t *testing.T) {
	ab := cat(a, b)
	for _, x := range []struct {
		n     api.Node
		s     string
		whole bool
		found bool
	}{
		{ab, "ab", true, true},
		{ab, "abcc", false, true},
		{ab, "ccabcc", false, true},
		{ab, "ccab", false, true},
		{ab, "aacbb", false, false},
		{ab, "", false, false},
		{ab, "a", false, false},
		{ab, many("a", 1000) + "b", false, true},
		{ab, many("b", 1000) + "a", false, false},
		// A stretch that fails does not hide one that begins within it.
		{cat(a, a, b), "aaab", false, true},
		{cat(a, b, a, c), "ababac", false, true},
		{cat(a, times(b, 0, -1), c), "abbabbc", false, true},
		// A stretch without bytes stands at each place.
		{none, "cc", false, true},
		{times(a, 0, -1), "cc", false, true},
		{cat(begin, none), "cc", false, true},
		{cat(none, end), "cc", false, true},
		{cat(begin, none, end), "cc", false, false},
		// All is taken, though a shorter stretch would do, and a longer one too.
		{times(alt(a, b), 1, -1), "abab", true, true},
		{alt(a, ab), "ab", true, true},
		{alt(ab, a), "ab", true, true},
		{alt(times(a, 0, -1), ab), "ab", true, true},
	} {
		if got := nfa.Matches(x.n, x.s); got != x.whole {
			t.Errorf("P701: Matches(%v, %.40q): %v", x.n, x.s, got)
		}
		if got := nfa.Finds(x.n, x.s); got != x.found {
			t.Errorf("P701: Finds(%v, %.40q): %v", x.n, x.s, got)
		}
	}
}

// held asks that a node takes nothing of any text.
func held(t *testing.T, n api.Node) {
	t.Helper()
	for _, s := range []string{"", "a", "b", "aa", "ab", "\n", "\x00", many("a", 300)} {
		if nfa.Matches(n, s) {
			t.Errorf("P701: not Right, kind %d: Matches of %.40q", n.Kind, s)
		}
		if nfa.Finds(n, s) {
			t.Errorf("P701: not Right, kind %d: Finds of %.40q", n.Kind, s)
		}
	}
}

// wrong lists nodes that are not Right, of each kind and of none.
func wrong() []api.Node {
	l := []api.Node{
		cat(), cat(a), cat(none), alt(), alt(a), alt(none),
		{Kind: api.NTimes}, {Kind: api.NTimes, Max: -1}, {Kind: api.NTimes, Kids: []api.Node{a, a}, Max: -1},
		times(a, 0, -2), times(a, 0, math.MinInt), times(a, -1, 1), times(a, -1, -1), times(a, math.MinInt, -1), times(a, 2, 1), times(a, 1, 0),
		times(a, 201, -1), times(a, 201, 201), times(a, 0, 201), times(a, 0, math.MaxInt), times(a, math.MaxInt, math.MaxInt), times(none, 0, 201),
		{Kind: api.NTimes, Set: a.Set, Kids: []api.Node{a}, Max: -1},
		{Kind: api.NCat, Set: a.Set, Kids: []api.Node{none, none}}, {Kind: api.NAlt, Set: a.Set, Kids: []api.Node{none, none}},
		{Kind: api.NCat, Min: 1, Kids: []api.Node{none, none}}, {Kind: api.NAlt, Max: 1, Kids: []api.Node{none, none}},
	}
	for _, kind := range []int{math.MinInt, -1, 0, 8, 9, 256 + api.NEmpty, math.MaxInt} {
		l = append(l, leaf(kind), api.Node{Kind: kind, Set: a.Set}, api.Node{Kind: kind, Kids: []api.Node{a, a}})
	}
	for _, kind := range []int{api.NEmpty, api.NBegin, api.NEnd, api.NSet} {
		l = append(l, api.Node{Kind: kind, Min: 1}, api.Node{Kind: kind, Max: 1}, api.Node{Kind: kind, Max: -1}, api.Node{Kind: kind, Kids: []api.Node{none}})
		if kind != api.NSet {
			l = append(l, api.Node{Kind: kind, Set: a.Set})
		} else {
			l = append(l, api.Node{Kind: kind, Set: a.Set, Min: 1}, api.Node{Kind: kind, Set: a.Set, Kids: []api.Node{a}})
		}
	}
	return l
}

func TestNotRight(t *testing.T) {
	for _, n := range wrong() {
		held(t, n)
		// Wherever it stands, and though it need not be taken.
		held(t, cat(n, none))
		held(t, cat(none, n))
		held(t, alt(none, n))
		held(t, alt(n, a, none))
		held(t, times(n, 0, 0))
		held(t, times(n, 0, -1))
		held(t, cat(none, alt(none, times(cat(none, n), 0, 1))))
	}
}

// within puts a node so often within others; what it takes stays the same.
func within(n api.Node, often int) api.Node {
	for i := range often {
		switch i % 3 {
		case 0:
			n = times(n, 1, 1)
		case 1:
			n = cat(none, n)
		case 2:
			n = alt(leaf(api.NSet), n)
		}
	}
	return n
}

func TestBoundsOfRight(t *testing.T) {
	deep := within(a, 200)
	each(t, []taken{{deep, map[string]int{"": nope, "a": all, "aa": some, "b": nope, "ba": some}}})
	held(t, times(deep, 0, 1))
	held(t, cat(none, deep))
	held(t, alt(none, deep))

	wide := make([]api.Node, 19999)
	for i := range wide {
		wide[i] = a
	}
	each(t, []taken{{alt(wide...), map[string]int{"": nope, "a": all, "aa": some, "b": nope}}})
	for k := 19998; k <= 20000; k++ {
		if got := nfa.Matches(cat(wide...), many("a", k)); got != (k == 19999) {
			t.Errorf("P701: Matches of %d bytes: %v", k, got)
		}
	}
	held(t, alt(append(wide, none)...))
	held(t, times(times(a, 200, 200), 0, 100))
	held(t, times(times(times(a, 200, 200), 200, 200), 0, 200))
}

// Lists that hold themselves have no end: they are not Right.
func TestNodesWithinThemselves(t *testing.T) {
	for _, kind := range []int{api.NCat, api.NAlt, api.NTimes} {
		l := []api.Node{none, none}
		if kind == api.NTimes {
			l = l[:1]
		}
		n := api.Node{Kind: kind, Kids: l}
		l[0] = n
		held(t, n)
	}
}

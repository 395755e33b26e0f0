package ere_test

import (
	"regexp"
	"slices"
	"strconv"
	"strings"
	"testing"

	"patchwork/api"
	"patchwork/ere"
)

// What is read here slowly, by the words of the chapter, the package must answer.

// Kinds of words, beside the bytes `( ) |`, which are themselves.
const (
	atom  = 'a'
	often = '*'
	wrong = '!'
	over  = '.'
)

// word of an expression: where it stands, and what it is.
type word struct {
	what byte
	at   int
	n    api.Node
}

var braces = regexp.MustCompile(`^\{([0-9]{1,3})(,([0-9]{1,3})?)?\}`)

// slowTimes reads a word that tells how often.
func slowTimes(s string) (n api.Node, size int, ok bool) {
	n = api.Node{Kind: api.NTimes}
	switch s[0] {
	case '*':
		n.Max = -1
		return n, 1, true
	case '+':
		n.Min, n.Max = 1, -1
		return n, 1, true
	case '?':
		n.Max = 1
		return n, 1, true
	}
	m := braces.FindStringSubmatch(s)
	if m == nil {
		return n, 0, false
	}
	n.Min, _ = strconv.Atoi(m[1])
	switch {
	case m[3] != "":
		n.Max, _ = strconv.Atoi(m[3])
	case m[2] != "":
		n.Max = -1
		return n, len(m[0]), n.Min <= 200
	default:
		n.Max = n.Min
	}
	return n, len(m[0]), n.Min <= n.Max && n.Max <= 200
}

var classes = []string{"[:alpha:]", "[:digit:]", "[:upper:]", "[:lower:]", "[:alnum:]", "[:space:]"}

// slowSet reads a word that begins with `[`.
func slowSet(s string) (n api.Node, size int, ok bool) {
	rest := s[1:]
	others := strings.HasPrefix(rest, "^")
	rest = strings.TrimPrefix(rest, "^")
	var items []string
	for len(items) == 0 || !strings.HasPrefix(rest, "]") {
		if rest == "" {
			return n, 0, false
		}
		size := 1
		for _, x := range classes {
			if strings.HasPrefix(rest, x) {
				size = len(x)
			}
		}
		items = append(items, rest[:size])
		rest = rest[size:]
	}
	bytes := ""
	for k := range 256 {
		if among(items, byte(k)) {
			bytes += one(k)
		}
	}
	if others {
		return but(bytes), len(s) - len(rest) + 1, true
	}
	return of(bytes), len(s) - len(rest) + 1, true
}

// The library knows these classes by the same names.
var library = func() (out []*regexp.Regexp) {
	for _, x := range classes {
		out = append(out, regexp.MustCompile("^["+x+"]$"))
	}
	return out
}()

// among tells whether one of the items of a set is a byte, or has it.
func among(items []string, k byte) bool {
	for i := 0; i < len(items); i++ {
		x := items[i]
		if at := slices.Index(classes, x); at >= 0 {
			if k < 128 && library[at].Match([]byte{k}) {
				return true
			}
			continue
		}
		to := x
		if i+2 < len(items) && items[i+1] == "-" && len(items[i+2]) == 1 {
			i += 2
			to = items[i]
		}
		if x[0] <= k && k <= to[0] {
			return true
		}
	}
	return false
}

// slowAtom reads a word that is an atom by itself.
func slowAtom(s string) (n api.Node, size int) {
	switch s[0] {
	case '^':
		return begin, 1
	case '$':
		return end, 1
	case '.':
		return but(""), 1
	case '\\':
		return of(s[1:2]), 2
	}
	return of(s[:1]), 1
}

// words cuts an expression; the last one is wrong, or tells that it is over.
func words(s string) []word {
	var out []word
	for at := 0; at < len(s); {
		n, size, ok := api.Node{}, 1, true
		what := s[at]
		switch what {
		case '(', ')', '|':
		case '*', '+', '?', '{':
			what = often
			n, size, ok = slowTimes(s[at:])
		case '[':
			what = atom
			n, size, ok = slowSet(s[at:])
		default:
			what = atom
			if s[at:] == "\\" {
				return append(out, word{what: wrong, at: len(s)})
			}
			n, size = slowAtom(s[at:])
		}
		if !ok {
			return append(out, word{what: wrong, at: at})
		}
		out = append(out, word{what, at, n})
		at += size
	}
	return append(out, word{what: over, at: len(s)})
}

// level of an expression: its branches, each with its pieces.
type level [][]api.Node

// node puts a level together.
func (l level) node() api.Node {
	var branches []api.Node
	for _, pieces := range l {
		switch len(pieces) {
		case 0:
			branches = append(branches, none)
		case 1:
			branches = append(branches, pieces[0])
		default:
			branches = append(branches, cat(pieces...))
		}
	}
	if len(branches) == 1 {
		return branches[0]
	}
	return alt(branches...)
}

// slowParse goes from word to word, with all levels that are open in a list.
func slowParse(s string) (api.Node, int, api.Errno) {
	if len(s) > 1000 {
		return api.Node{}, 0, api.ErrLong
	}
	levels := []level{{nil}}
	for _, w := range words(s) {
		last := len(levels) - 1
		branch := &levels[last][len(levels[last])-1]
		switch {
		case w.what == '(' && last == 30:
			return api.Node{}, w.at, api.ErrLarge
		case w.what == '(':
			levels = append(levels, level{nil})
		case w.what == '|':
			levels[last] = append(levels[last], nil)
		case w.what == atom:
			*branch = append(*branch, w.n)
		case w.what == ')' && last > 0:
			n := levels[last].node()
			levels = levels[:last]
			branch = &levels[last-1][len(levels[last-1])-1]
			*branch = append(*branch, n)
		case w.what == often && len(*branch) > 0:
			piece := &(*branch)[len(*branch)-1]
			*piece = times(*piece, w.n.Min, w.n.Max)
		case w.what == over && last == 0:
			n := levels[0].node()
			if slowSize(n) > 20000 || slowWithin(n) > 200 {
				return api.Node{}, 0, api.ErrLarge
			}
			return n, -1, api.OK
		default:
			return api.Node{}, w.at, api.ErrMalformed
		}
	}
	return api.Node{}, 0, api.ErrArg
}

// held holds Parse against slowParse, and tells whether the expression is read.
func held(t *testing.T, promise, s string) bool {
	t.Helper()
	got, at, e := ere.Parse(s)
	want, wantAt, wantE := slowParse(s)
	if !same(got, want) || at != wantAt || e != wantE {
		t.Errorf("%s: Parse(%q): %v, %d, %v; wanted %v, %d, %v", promise, s, got, at, e, want, wantAt, wantE)
	}
	if e == api.OK && !ere.Right(got) {
		t.Errorf("%s: Parse(%q) is not Right", promise, s)
	}
	return e == api.OK
}

// rows calls do with all texts of up to most of these pieces.
func rows(pieces []string, most int, do func(s string)) {
	do("")
	if most == 0 {
		return
	}
	for _, x := range pieces {
		rows(pieces, most-1, func(s string) { do(x + s) })
	}
}

func TestAllShortExpressions(t *testing.T) {
	for _, x := range []struct {
		ahead, pieces string
		most          int
	}{
		{"", "a b | ( ) *", 6},
		{"", "a | ( ) * + ? { [ ] ^ $ . \\ - 1 , }", 4},
		{"a", "a { } 0 2 ,", 6},
		{"a{", "0 1 2 9 , }", 6},
		{"a", "{ } 2 , 20 1 0 x {2}", 4},
		{"[", "[ ] ^ - a c \\", 5},
		{"[", "[ ] ^ - a [:digit:] [:foo:] [:upper:] : \xff", 4},
		{"(", "( ) [ ] \\ | {2} a", 5},
	} {
		found, lost := 0, 0
		rows(strings.Fields(x.pieces), x.most, func(s string) {
			if held(t, "P601", x.ahead+s) {
				found++
			} else {
				lost++
			}
		})
		if found < 100 || lost < 100 {
			t.Errorf("P601: of rows of %q %d are read, %d are not", x.pieces, found, lost)
		}
	}
}

// chance makes numbers, the same ones each time.
type chance uint32

func (c *chance) next(most int) int {
	*c = *c*1664525 + 1013904223
	return int(*c>>9) % most
}

// writtenSet writes a set so that it is read as that set.
func writtenSet(n api.Node) string {
	first, last, s := "", "", ""
	for k := range 256 {
		switch x := one(k); {
		case !ere.Has(n, byte(k)):
		case x == "]":
			first = x
		case x == "^" || x == "-":
			last = x + last
		default:
			s += x
		}
	}
	switch s = first + s + last; {
	case s == "":
		return "[b-a]"
	case len(s) == 1:
		return "\\" + s
	case s == "^-":
		return "[-^]"
	}
	return "[" + s + "]"
}

// written writes a node so that it is read as that node.
func written(n api.Node) string {
	var kids []string
	for _, k := range n.Kids {
		s := written(k)
		if k.Kind == api.NAlt || k.Kind == api.NCat && n.Kind != api.NAlt || k.Kind == api.NEmpty && n.Kind != api.NAlt {
			s = "(" + s + ")"
		}
		kids = append(kids, s)
	}
	switch n.Kind {
	case api.NSet:
		return writtenSet(n)
	case api.NBegin:
		return "^"
	case api.NEnd:
		return "$"
	case api.NAlt:
		return strings.Join(kids, "|")
	case api.NTimes:
		low, high := strconv.Itoa(n.Min), strconv.Itoa(n.Max)
		if n.Max < 0 {
			high = ""
		}
		return kids[0] + "{" + low + "," + high + "}"
	}
	return strings.Join(kids, "")
}

// node makes a node, of at most so many within one another.
func (c *chance) node(most int) api.Node {
	if most > 0 && c.next(3) > 0 {
		var kids []api.Node
		for range 2 + c.next(3) {
			kids = append(kids, c.node(most-1))
		}
		low := c.next(4)
		return []api.Node{cat(kids...), alt(kids...), times(kids[0], low, low+c.next(4)), times(kids[0], low, -1)}[c.next(4)]
	}
	bytes := ""
	for range c.next(5) {
		bytes += one([]int{c.next(256), '^', '-', ']', '[', ':', '\\', '\n'}[c.next(8)])
	}
	return []api.Node{none, begin, end, but(bytes), of(bytes), of(bytes)}[c.next(6)]
}

func TestWrittenIsReadAgain(t *testing.T) {
	c := chance(2)
	read := 0
	for range 5000 {
		n := c.node(c.next(5))
		if s := written(n); len(s) <= 1000 && ere.Size(n) <= 20000 {
			all(t, "P601", []readAs{{s, n}})
			read++
		}
	}
	if read < 1000 {
		t.Errorf("P601: %d are read", read)
	}
}

// What was written is read as the slow reading has it, whatever comes in between.
func TestDisturbedExpressions(t *testing.T) {
	pieces := []string{"a", "(", ")", "()", "|", "[", "]", "^", "-", "\\", "*", "+", "?", "{", "}", "{2}", "{3,}", "{,1}", "{199}{199}", "[^a]", "[[:space:]", "\xff", "\n", many("(", 29), many("(", 31), many("*", 198)}
	c := chance(3)
	read, unread := 0, map[api.Errno]int{}
	for range 20000 {
		s := written(c.node(c.next(5)))
		for range c.next(3) {
			at := c.next(len(s) + 1)
			s = s[:at] + pieces[c.next(len(pieces))] + s[at:]
		}
		if held(t, "P602", s) {
			read++
			continue
		}
		_, _, e := ere.Parse(s)
		unread[e]++
	}
	if read < 1000 || unread[api.ErrMalformed] < 1000 || unread[api.ErrLarge] < 100 || unread[api.ErrLong] < 10 {
		t.Errorf("P602: %d are read, %v are not", read, unread)
	}
}

// The slow reading holds for what the chapter's own words say of single ones.
func TestSlowParse(t *testing.T) {
	for _, x := range []readAs{{"", none}, {"a|", alt(a, none)}, {"(ab)*c", cat(times(cat(a, b), 0, -1), c)}, {"a{2,}", times(a, 2, -1)}, {"[^]a-c]", but("]abc")}, {"[\\]", of("\\")}, {"\\(", of("(")}, {"[[:digit:]-]", of("0123456789-")}} {
		if got, at, e := slowParse(x.s); !same(got, x.want) || at != -1 || e != api.OK {
			t.Errorf("P601: the slow reading of %q: %v, %d, %v", x.s, got, at, e)
		}
	}
	for _, x := range []refused{{"a)", 1, api.ErrMalformed}, {"(a", 2, api.ErrMalformed}, {"a\\", 2, api.ErrMalformed}, {"a[b", 1, api.ErrMalformed}, {"a{3,2}", 1, api.ErrMalformed}, {"|*", 1, api.ErrMalformed}, {many("(", 31), 30, api.ErrLarge}, {"a{200}{200}", 0, api.ErrLarge}, {many("a", 1001), 0, api.ErrLong}} {
		if got, at, e := slowParse(x.s); !same(got, api.Node{}) || at != x.at || e != x.e {
			t.Errorf("P602: the slow reading of %q: %v, %d, %v", x.s, got, at, e)
		}
	}
}

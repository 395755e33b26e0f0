package ere_test

import (
	"slices"
	"strconv"
	"strings"
	"testing"

	"patchwork/api"
	"patchwork/ere"
)

// same tells whether two nodes are the same.
func same(a, b api.Node) bool {
	return a.Kind == b.Kind && a.Set == b.Set && a.Min == b.Min && a.Max == b.Max && slices.EqualFunc(a.Kids, b.Kids, same)
}

// of makes a node of the bytes of a text.
func of(s string) api.Node {
	n := api.Node{Kind: api.NSet}
	for i := range len(s) {
		n.Set[s[i]/64] |= 1 << (s[i] % 64)
	}
	return n
}

// but makes a node of all bytes that are not in a text, nor 10.
func but(s string) api.Node {
	n := of(s + "\n")
	for i := range n.Set {
		n.Set[i] = ^n.Set[i]
	}
	return n
}

func leaf(kind int) api.Node     { return api.Node{Kind: kind} }
func cat(l ...api.Node) api.Node { return api.Node{Kind: api.NCat, Kids: l} }
func alt(l ...api.Node) api.Node { return api.Node{Kind: api.NAlt, Kids: l} }
func times(n api.Node, l, h int) api.Node {
	return api.Node{Kind: api.NTimes, Kids: []api.Node{n}, Min: l, Max: h}
}

// many answers a text so often.
func many(s string, n int) string { return strings.Repeat(s, n) }

// one makes a text of a byte.
func one(n int) string { return string([]byte{byte(n)}) }

var none, begin, end, a, b, c = leaf(api.NEmpty), leaf(api.NBegin), leaf(api.NEnd), of("a"), of("b"), of("c")

// readAs is an expression with its node.
type readAs struct {
	s    string
	want api.Node
}

// all holds Parse against what is listed.
func all(t *testing.T, promise string, l []readAs) {
	t.Helper()
	for _, x := range l {
		if got, at, e := ere.Parse(x.s); !same(got, x.want) || at != -1 || e != api.OK {
			t.Errorf("%s: Parse(%q): %v, %d, %v; wanted %v", promise, x.s, got, at, e, x.want)
		}
	}
}

// refused is an expression with where it can't be read, and why.
type refused struct {
	s  string
	at int
	e  api.Errno
}

// nothing holds Parse against what is listed.
func nothing(t *testing.T, l []refused) {
	t.Helper()
	for _, x := range l {
		if got, at, e := ere.Parse(x.s); !same(got, api.Node{}) || at != x.at || e != x.e {
			t.Errorf("P602: Parse(%.60q): %v, %d, %v; wanted %d, %v", x.s, got, at, e, x.at, x.e)
		}
	}
}

func TestBranches(t *testing.T) {
	all(t, "P601", []readAs{
		{"", none},
		{"a", a},
		{"ab", cat(a, b)},
		{"abc", cat(a, b, c)},
		{"a|b", alt(a, b)},
		{"a|b|c", alt(a, b, c)},
		{"ab|c", alt(cat(a, b), c)},
		{"a|bc", alt(a, cat(b, c))},
		{"|", alt(none, none)},
		{"||", alt(none, none, none)},
		{"a|", alt(a, none)},
		{"|a", alt(none, a)},
		{"a||b", alt(a, none, b)},
		{"a|a", alt(a, a)},
		{"()", none},
		{"(())", none},
		{"()()", cat(none, none)},
		{"()|()", alt(none, none)},
		{"a()", cat(a, none)},
		{"(|)", alt(none, none)},
		{"(a|)", alt(a, none)},
		{"(|a)", alt(none, a)},
		{"(a)", a},
		{"((a))", a},
		{"(a)b", cat(a, b)},
		{"a(b)", cat(a, b)},
		{"(ab)", cat(a, b)},
		{"(ab)c", cat(cat(a, b), c)},
		{"a(bc)", cat(a, cat(b, c))},
		{"(a|b)", alt(a, b)},
		{"(a|b)c", cat(alt(a, b), c)},
		{"a(b|c)", cat(a, alt(b, c))},
		{"(a|b)|c", alt(alt(a, b), c)},
		{"a|(b|c)", alt(a, alt(b, c))},
		{"((a|b)|(b|c))(ab)", cat(alt(alt(a, b), alt(b, c)), cat(a, b))},
	})
}

func TestTimes(t *testing.T) {
	all(t, "P601", []readAs{
		{"a*", times(a, 0, -1)},
		{"a+", times(a, 1, -1)},
		{"a?", times(a, 0, 1)},
		{"a{3}", times(a, 3, 3)},
		{"a{3,}", times(a, 3, -1)},
		{"a{3,5}", times(a, 3, 5)},
		{"a{3,3}", times(a, 3, 3)},
		{"a{0}", times(a, 0, 0)},
		{"a{0,}", times(a, 0, -1)},
		{"a{0,0}", times(a, 0, 0)},
		{"a{0,1}", times(a, 0, 1)},
		{"a{200}", times(a, 200, 200)},
		{"a{200,}", times(a, 200, -1)},
		{"a{0,200}", times(a, 0, 200)},
		{"a{200,200}", times(a, 200, 200)},
		{"a{007}", times(a, 7, 7)},
		{"a{00,010}", times(a, 0, 10)},
		{"a**", times(times(a, 0, -1), 0, -1)},
		{"a+*?", times(times(times(a, 1, -1), 0, -1), 0, 1)},
		{"a?+", times(times(a, 0, 1), 1, -1)},
		{"a{2}{3}", times(times(a, 2, 2), 3, 3)},
		{"a{2}*{3,}", times(times(times(a, 2, 2), 0, -1), 3, -1)},
		{"ab*", cat(a, times(b, 0, -1))},
		{"a*b", cat(times(a, 0, -1), b)},
		{"a|b*", alt(a, times(b, 0, -1))},
		{"a*|b", alt(times(a, 0, -1), b)},
		{"(ab)*", times(cat(a, b), 0, -1)},
		{"(a|b){2}", times(alt(a, b), 2, 2)},
		{"(a*)+", times(times(a, 0, -1), 1, -1)},
		{"()*", times(none, 0, -1)},
		{"(|){2}", times(alt(none, none), 2, 2)},
		{"^*", times(begin, 0, -1)},
		{"$+", times(end, 1, -1)},
		{".?", times(but(""), 0, 1)},
		{"[ab]{2}", times(of("ab"), 2, 2)},
		{"\\**", times(of("*"), 0, -1)},
		{"a{2}3}", cat(times(a, 2, 2), of("3"), of("}"))},
	})
}

func TestAllTimes(t *testing.T) {
	for n := range 1000 {
		low := strconv.Itoa(n)
		for _, x := range []struct {
			s      string
			l, h   int
			itself bool
		}{
			{"a{" + low + "}", n, n, true},
			{"a{" + low + ",}", n, -1, true},
			{"a{0," + low + "}", 0, n, true},
			{"a{100," + low + "}", 100, n, n >= 100},
			{"a{" + low + ",200}", n, 200, true},
			{"a{" + many("0", 3-len(low)) + low + "}", n, n, true},
		} {
			if n <= api.MaxTimes && x.itself {
				all(t, "P601", []readAs{{x.s, times(a, x.l, x.h)}})
			} else {
				nothing(t, []refused{{x.s, 1, api.ErrMalformed}})
			}
		}
	}
}

func TestAtoms(t *testing.T) {
	all(t, "P601", []readAs{
		{"^", begin},
		{"$", end},
		{"^a$", cat(begin, a, end)},
		{"a^b", cat(a, begin, b)},
		{"$^", cat(end, begin)},
		{"(^|$)", alt(begin, end)},
		{".", but("")},
		{"a.", cat(a, but(""))},
		{"\n", of("\n")},
		{"]", of("]")},
		{"}", of("}")},
		{"a]", cat(a, of("]"))},
		{"-,", cat(of("-"), of(","))},
		{"1}", cat(of("1"), of("}"))},
		{"\\a", a},
		{"\\n", of("n")},
		{"\\\\", of("\\")},
		{"\\\\a", cat(of("\\"), a)},
		{"\\(a\\)", cat(of("("), a, of(")"))},
		{"\\[a]", cat(of("["), a, of("]"))},
		{"a\\{2}", cat(a, of("{"), of("2"), of("}"))},
		{"a\\|b", cat(a, of("|"), b)},
		{"\\^\\$", cat(of("^"), of("$"))},
		{"\xc3\xa9", cat(of("\xc3"), of("\xa9"))},
		{"\xc3\xa9*", cat(of("\xc3"), times(of("\xa9"), 0, -1))},
	})
}

func TestEachByte(t *testing.T) {
	dot, _, _ := ere.Parse(".")
	for n := range 256 {
		s := one(n)
		all(t, "P601", []readAs{{"\\" + s, of(s)}, {"a\\" + s + "b", cat(a, of(s), b)}})
		if !strings.Contains("()*+?{|[.^$\\", s) {
			all(t, "P601", []readAs{{s, of(s)}, {s + s, cat(of(s), of(s))}, {"(" + s + ")", of(s)}, {"|" + s, alt(none, of(s))}})
		}
		if s != "]" {
			all(t, "P601", []readAs{{"[ab" + s + "]", of("ab" + s)}, {"[^ab" + s + "]", but("ab" + s)}})
		}
		if s != "]" && s != "^" {
			all(t, "P601", []readAs{{"[" + s + "]", of(s)}})
		}
		if ere.Has(dot, byte(n)) != (n != 10) {
			t.Errorf("P601: `.` and byte %d", n)
		}
	}
}

func TestSets(t *testing.T) {
	all(t, "P601", []readAs{
		{"[ab]", of("ab")},
		{"[aa]", a},
		{"[ab]c", cat(of("ab"), c)},
		{"[a][b]", cat(a, b)},
		{"[^ab]", but("ab")},
		{"[^^]", but("^")},
		{"[a^]", of("a^")},
		{"[^a^]", but("a^")},
		{"[\n]", of("\n")},
		{"[^\n]", but("")},
		{"[!a]", of("!a")},
		{"[/]", of("/")},
		{"[(*|)+?{.$]", of("(*|)+?{.$")},
		{"([)]|a)", alt(of(")"), a)},
		{"[\x80\xff]", of("\x80\xff")},
		{"[]]", of("]")},
		{"[]a]", of("]a")},
		{"[^]]", but("]")},
		{"[^]a]", but("]a")},
		{"[a]]", cat(a, of("]"))},
		{"[]]]", cat(of("]"), of("]"))},
		{"[][]", of("][")},
		{"[[]", of("[")},
		{"[[a]", of("[a")},
		{"[\\]", of("\\")},
		{"[\\]]", cat(of("\\"), of("]"))},
		{"[\\n]", of("\\n")},
		{"[^\\n]", but("\\n")},
	})
}

func TestRowsOfSets(t *testing.T) {
	all(t, "P601", []readAs{
		{"[a-e]", of("abcde")},
		{"[a-a]", a},
		{"[b-a]", of("")},
		{"[^b-a]", but("")},
		{"[b-ax]", of("x")},
		{"[^a-c]", but("abc")},
		{"[a-cx-z0]", of("abcxyz0")},
		{"[-a]", of("-a")},
		{"[^-a]", but("-a")},
		{"[a-]", of("a-")},
		{"[^a-]", but("a-")},
		{"[-]", of("-")},
		{"[--]", of("-")},
		{"[^-]", but("-")},
		{"[a-]]", cat(of("a-"), of("]"))},
		{"[a-c-]", of("abc-")},
		{"[a-c-e]", of("abc-e")},
		{"[]-a]", of("]^_`a")},
		{"[]-]", of("]-")},
		{"[^]-a]", but("]^_`a")},
		{"[\\-a]", of("\\]^_`a")},
		{"[X-\\]", of("XYZ[\\")},
		{"[+--]", of("+,-")},
		{"[--/]", of("-./")},
		{"[a-^]", of("")},
		{"[X-[]", of("XYZ[")},
		{"[X-[:foo:]]", cat(of("XYZ[:fo"), of("]"))},
		{"[a-[:digit:]]", of("a-0123456789")},
		{"[^a-[:digit:]]", but("a-0123456789")},
		{"[-[:digit:]]", of("-0123456789")},
		{"[[:digit:]-a]", of("0123456789-a")},
		{"[[:digit:]-]", of("0123456789-")},
		{"[a-c[:digit:]x-z]", of("abc0123456789xyz")},
	})
	ends := []int{0, 1, 9, 10, 11, 'A', 'Z', 'a', 'z', 62, 63, 64, 65, 126, 127, 128, 129, 190, 191, 192, 193, 254, 255}
	for _, from := range ends {
		for _, to := range ends {
			row := ""
			for n := from; n <= to; n++ {
				row += one(n)
			}
			s := one(from) + "-" + one(to)
			all(t, "P601", []readAs{{"[" + s + "]", of(row)}, {"[^" + s + "]", but(row)}})
		}
	}
}

func TestClasses(t *testing.T) {
	const digits, upper, lower = "0123456789", "ABCDEFGHIJKLMNOPQRSTUVWXYZ", "abcdefghijklmnopqrstuvwxyz"
	for _, x := range []struct{ name, bytes string }{
		{"alpha", upper + lower},
		{"digit", digits},
		{"upper", upper},
		{"lower", lower},
		{"alnum", upper + lower + digits},
		{"space", "\t\n\v\f\r "},
	} {
		s := "[:" + x.name + ":]"
		all(t, "P601", []readAs{
			{"[" + s + "]", of(x.bytes)},
			{"[^" + s + "]", but(x.bytes)},
			{"[_" + s + "]", of("_" + x.bytes)},
			{"[" + s + "_]", of(x.bytes + "_")},
			{"[]" + s + "]", of("]" + x.bytes)},
			{"[" + s + s + "]", of(x.bytes)},
			{"[" + s + "]]", cat(of(x.bytes), of("]"))},
			{"[a" + s[1:], of("a:" + x.name)},
		})
		// Its own `]` ends a class alone.
		nothing(t, []refused{{"[" + s, 0, api.ErrMalformed}, {"[^" + s, 0, api.ErrMalformed}})
	}
	all(t, "P601", []readAs{
		{"[[:digit:][:space:]]", of(digits + "\t\n\v\f\r ")},
		{"[[:foo:]", of("[:fo")},
		{"[[:foo:]]", cat(of("[:fo"), of("]"))},
		{"[[:Digit:]]", cat(of("[:Digt"), of("]"))},
		{"[[:digits:]]", cat(of("[:digts"), of("]"))},
		{"[[:xdigit:]]", cat(of("[:xdigt"), of("]"))},
		{"[[:digit]]", cat(of("[:digt"), of("]"))},
		{"[[digit:]]", cat(of("[digt:"), of("]"))},
		{"[[::]]", cat(of("[:"), of("]"))},
		{"[:digit:]", of(":digt")},
		{"[[.a.]]", cat(of("[.a"), of("]"))},
		{"[[=a=]]", cat(of("[=a"), of("]"))},
	})
}

func TestMalformed(t *testing.T) {
	for _, x := range []struct {
		s  string
		at int
	}{
		{")", 0}, {"a)", 1}, {"(a))", 3}, {"())", 2}, {"a|)", 2}, {"(|))", 3}, {")(", 0},
		{"(", 1}, {"(a", 2}, {"(a|", 3}, {"(()", 3}, {"((a)", 4}, {"a(b", 3}, {"(a*", 3}, {"(a{2}", 5}, {"([)]", 4}, {"(\\)", 3},
		{"\\", 1}, {"a\\", 2}, {"(\\", 2}, {"a|\\", 3}, {"\\\\\\", 3}, {"a*\\", 3},
		{"[", 0}, {"[^", 0}, {"[]", 0}, {"[^]", 0}, {"[a", 0}, {"a[", 1}, {"a[b", 1}, {"([a", 1}, {"[a-", 0}, {"[a-z", 0},
		{"[[:digit:]", 0}, {"[[:digit:", 0}, {"[]a", 0}, {"[^]a", 0}, {"[\\", 0}, {"a|[b|c", 2}, {"[a][b", 3}, {"[(", 0},
		{"a{", 1}, {"a{}", 1}, {"a{,}", 1}, {"a{,3}", 1}, {"a{3", 1}, {"a{3,", 1}, {"a{3,4", 1}, {"a{3,2}", 1}, {"a{1,0}", 1},
		{"a{201}", 1}, {"a{201,}", 1}, {"a{0,201}", 1}, {"a{999}", 1}, {"a{201,201}", 1}, {"a{200,199}", 1},
		{"a{0005}", 1}, {"a{0000}", 1}, {"a{0,0005}", 1}, {"a{1000}", 1}, {"a{99999999999999999999}", 1}, {"a{18446744073709551617}", 1},
		{"a{ 1}", 1}, {"a{1 }", 1}, {"a{1, 2}", 1}, {"a{1 ,2}", 1}, {"a{-1}", 1}, {"a{+1}", 1}, {"a{0,-1}", 1}, {"a{1,2,3}", 1}, {"a{1,2,}", 1}, {"a{1,,2}", 1},
		{"a{x}", 1}, {"a{1x}", 1}, {"a{1,x}", 1}, {"a{1;2}", 1}, {"a{1)", 1}, {"(a{1)", 2}, {"a{1{2}}", 1}, {"a{\\1}", 1}, {"a{\x801}", 1},
		{"ab{", 2}, {"a*{", 2}, {"a{2}{", 4}, {"a{2}{x}", 4}, {"(a){", 3}, {"(a{)", 2}, {"a{|b", 1},
	} {
		nothing(t, []refused{{x.s, x.at, api.ErrMalformed}})
	}
}

func TestWhereAnAtomIsWanted(t *testing.T) {
	for _, s := range []string{"*", "+", "?", "{", "{2}", "{2,}", "{2,3}", "{x}"} {
		for _, ahead := range []string{"", "|", "a|", "(", "((", "(a|", "a(", "a*|", "()|", "[*]|"} {
			for _, behind := range []string{"", "a", ")", "*", "[", "\\", "(", "|"} {
				nothing(t, []refused{{ahead + s + behind, len(ahead), api.ErrMalformed}})
			}
		}
	}
	// There these two end a branch, and a `)` wants its `(`.
	all(t, "P601", []readAs{{"|a", alt(none, a)}, {"()a", cat(none, a)}})
	nothing(t, []refused{{")a", 0, api.ErrMalformed}, {"|)a", 1, api.ErrMalformed}})
}

// Of several that do not fit, the first is told.
func TestFirstFault(t *testing.T) {
	faults := []refused{
		{")", 0, api.ErrMalformed},
		{"|*", 1, api.ErrMalformed},
		{"a{", 1, api.ErrMalformed},
		{"a{2,1}", 1, api.ErrMalformed},
		{many("(", 31) + many(")", 31), 30, api.ErrLarge},
		{"a" + many("(a|", 30) + "(" + many(")", 31), 91, api.ErrLarge},
	}
	for _, ahead := range []string{"", "a", "ab*", "a|b", "(a|b)", "[)]", "\\)"} {
		for _, x := range faults {
			nothing(t, []refused{{ahead + x.s, len(ahead) + x.at, x.e}})
			for _, y := range append(faults, refused{s: "["}, refused{s: "\\"}, refused{s: "("}) {
				nothing(t, []refused{{ahead + x.s + y.s, len(ahead) + x.at, x.e}})
			}
		}
	}
}

func TestLong(t *testing.T) {
	for n := 998; n <= 1000; n++ {
		got, at, e := ere.Parse(many("a", n))
		if at != -1 || e != api.OK || got.Kind != api.NCat || len(got.Kids) != n || !ere.Right(got) {
			t.Errorf("P602: Parse of %d bytes: %d, %v", n, at, e)
		}
	}
	nothing(t, []refused{
		{many("a", 999) + "\\", 1000, api.ErrMalformed},
		{many("a", 999) + "(", 1000, api.ErrMalformed},
		{many("a", 999) + ")", 999, api.ErrMalformed},
		{many("a", 999) + "[", 999, api.ErrMalformed},
		{many("a", 998) + "*{", 999, api.ErrMalformed},
		{many("*", 1000), 0, api.ErrMalformed},
		{many("(", 1000), 30, api.ErrLarge},
		{many("[", 1000), 0, api.ErrMalformed},
		{many("a", 1001), 0, api.ErrLong},
		{many("\xff", 1001), 0, api.ErrLong},
		{many("*", 1001), 0, api.ErrLong},
		{many("(", 1001), 0, api.ErrLong},
		{many("a", 1000) + ")", 0, api.ErrLong},
		{"a{200}{200}" + many("a", 990), 0, api.ErrLong},
		{many("a", 100000), 0, api.ErrLong},
	})
}

func TestDepth(t *testing.T) {
	deep := func(n int, s string) string { return many("(", n) + s + many(")", n) }
	all(t, "P602", []readAs{
		{deep(29, "a"), a},
		{deep(30, "a"), a},
		{deep(30, ""), none},
		{deep(30, "a") + deep(30, "b"), cat(a, b)},
		{deep(30, "a") + "|" + deep(30, "b"), alt(a, b)},
		{deep(29, "(a)(b)"), cat(a, b)},
		{deep(30, "[((]"), of("(")},
		{deep(30, "\\(\\("), cat(of("("), of("("))},
	})
	nothing(t, []refused{
		{deep(31, "a"), 30, api.ErrLarge},
		{deep(31, ""), 30, api.ErrLarge},
		{deep(32, ""), 30, api.ErrLarge},
		{deep(400, ""), 30, api.ErrLarge},
		{many("(", 30), 30, api.ErrMalformed},
		{many("(", 31), 30, api.ErrLarge},
		{many("(", 31) + "*", 30, api.ErrLarge},
		{many("(", 30) + "*(", 30, api.ErrMalformed},
		{many("(", 30) + "*", 30, api.ErrMalformed},
		{many("(", 29) + "*((", 29, api.ErrMalformed},
		{"*" + deep(31, ""), 0, api.ErrMalformed},
		{")" + deep(31, ""), 0, api.ErrMalformed},
		{"[" + many("(", 31), 0, api.ErrMalformed},
		{"a{" + many("(", 31), 1, api.ErrMalformed},
		{"a" + deep(31, "") + ")", 31, api.ErrLarge},
		{deep(31, "") + "[", 30, api.ErrLarge},
		{deep(31, "["), 30, api.ErrLarge},
		{deep(30, "["), 30, api.ErrMalformed},
		{deep(30, "a(b)"), 31, api.ErrLarge},
		{deep(30, "a") + deep(31, "a"), 91, api.ErrLarge},
		{deep(30, "a") + ")" + deep(31, "a"), 61, api.ErrMalformed},
	})
}

func TestLarge(t *testing.T) {
	most := "(a{199}){99}" + many("a", 198)
	stars := "a" + many("*", 200)
	for _, s := range []string{most, "(" + most + ")", stars, "(" + stars + ")", "b*" + stars[:200], "b|" + stars[:200], "a{99,200}", "a{200}{99}", many("(a|b)*", 150)} {
		if got, at, e := ere.Parse(s); at != -1 || e != api.OK || !ere.Right(got) {
			t.Errorf("P602: Parse(%q): %d, %v", s, at, e)
		}
	}
	if got, _, _ := ere.Parse(most); ere.Size(got) != 20000 {
		t.Errorf("P602: Size of Parse(%q): %d", most, ere.Size(got))
	}
	nothing(t, []refused{
		{most + "a", 0, api.ErrLarge},
		{"a" + most, 0, api.ErrLarge},
		{most + "|", 0, api.ErrLarge},
		{"(" + most + ")?", 0, api.ErrLarge},
		{"a{200}{200}", 0, api.ErrLarge},
		{"(a{200,}){100}", 0, api.ErrLarge},
		{"(a{0,200}){0,100}", 0, api.ErrLarge},
		{"b(a{200}){100}", 0, api.ErrLarge},
		{"a" + many("{200}", 199), 0, api.ErrLarge},
		{stars + "*", 0, api.ErrLarge},
		{"(" + stars + ")+", 0, api.ErrLarge},
		{stars + "b", 0, api.ErrLarge},
		{"b|" + stars, 0, api.ErrLarge},
		{"b|b" + stars[:200], 0, api.ErrLarge},
		{"a" + many("*", 999), 0, api.ErrLarge},
		{"a" + many("?", 500), 0, api.ErrLarge},
		{"a" + many("{1}", 201), 0, api.ErrLarge},
		// What stands somewhere is told first.
		{"a{200}{200})", 11, api.ErrMalformed},
		{"a{200}{200}[", 11, api.ErrMalformed},
		{"a{200}{200}{", 11, api.ErrMalformed},
		{"a{200}{200}" + many("(", 31), 41, api.ErrLarge},
		{stars + "*)", 202, api.ErrMalformed},
		{stars + "*\\", 203, api.ErrMalformed},
		{stars + "*" + many("(", 31), 232, api.ErrLarge},
	})
}

package glob_test

import (
	"strings"
	"sync"
	"testing"
	"unsafe"

	"patchwork/glob"
)

// taken is a pattern with names that it takes, and others.
type taken struct {
	pattern string
	yes, no []string
}

// all holds Match against what is listed.
func all(t *testing.T, l []taken) {
	t.Helper()
	for _, x := range l {
		for _, s := range x.yes {
			if !glob.Match(x.pattern, s) {
				t.Errorf("P501: Match(%q, %q): false", x.pattern, s)
			}
		}
		for _, s := range x.no {
			if glob.Match(x.pattern, s) {
				t.Errorf("P501: Match(%q, %q): true", x.pattern, s)
			}
		}
	}
}

// of lists texts.
func of(l ...string) []string { return l }

// one makes a text of a byte.
func one(c int) string { return string([]byte{byte(c)}) }

func TestBytes(t *testing.T) {
	all(t, []taken{
		{"", of(""), of("a", "/", " ", "\x00", "*")},
		{"a", of("a"), of("", "b", "aa", "A", "a/", "/a", " a", "a\n")},
		{"a.go", of("a.go"), of("a_go", "xa.go", "a.gox", "a.g", "")},
		{"a/b", of("a/b"), of("a//b", "a", "b", "ab", "/a/b", "a/b/")},
		{"/", of("/"), of("", "//", "a")},
		{"//", of("//"), of("/", "///")},
		{"]", of("]"), of("[", "[]", "")},
		{"a]b", of("a]b"), of("ab", "a")},
		{"!a", of("!a"), of("b", "a")},
		{"^a", of("^a"), of("b", "a")},
		{"a-c", of("a-c"), of("a", "b", "c")},
		{"[:digit:", of("[:digit:"), of("5", "d")},
		{"(a|b)+.$", of("(a|b)+.$"), of("a", "aa", "")},
		{"{a,b}", of("{a,b}"), of("a", "b")},
		{"\xc3\xa9", of("\xc3\xa9"), of("\xc3", "\xa9", "\xe9", "e")},
	})
}

func TestStars(t *testing.T) {
	all(t, []taken{
		{"*", of("", "a", "abc", ".x", "*", "\n", "\x00\xff", "[]"), of("/", "a/", "/a", "a/b")},
		{"*.go", of("a.go", ".go", "a.go.go", "*.go"), of("a.goo", "x/a.go", "/.go", "a.g", "", "go")},
		{"a*", of("a", "ab", "a*", "aa"), of("", "ba", "a/", "a/b", "b")},
		{"*a", of("a", "ba", "aa", "aba"), of("", "ab", "/a", "b/a")},
		{"*a*", of("a", "bab", "aaa"), of("", "b", "b/a", "a/b")},
		{"**", of("", "a", "ab"), of("/", "a/b")},
		{"***", of("", "a", "abc"), of("/", "a/b")},
		{"a**b", of("ab", "axb", "aabb"), of("a", "b", "a/b", "abx")},
		{"**a**", of("a", "xax"), of("", "x", "/a", "a/")},
		{"*/*", of("/", "a/", "/b", "a/b"), of("", "a", "//", "a/b/c", "/a/")},
		{"**/**", of("/", "a/b"), of("a", "a/b/c")},
		{"*/", of("/", "a/"), of("", "a", "//", "a/b", "a/b/")},
		{"/*", of("/", "/a"), of("", "a", "//", "/a/", "a/b")},
		{"a/*/c", of("a/b/c", "a//c", "a/bb/c"), of("a/c", "a/b/b/c", "a///c")},
		{"*/*/*", of("//", "a/b/c", "/b/"), of("/", "a/b", "a/b/c/d")},
		{"src/*.go", of("src/a.go", "src/.go"), of("a.go", "src/x/a.go", "src/a.c", "src/a.go/")},
		{"*/a*b", of("x/ab", "/acb"), of("ab", "x/a/b", "x/y/ab", "ab/x")},
		{"a*b*c", of("abc", "aXbYc", "abbcc", "abcbc"), of("ab", "ac", "abcd", "a/bc", "ab/c", "acb")},
		{"*ab", of("ab", "aab", "abab", "aaab"), of("aba", "a", "b", "abb")},
		{"*aab*", of("aab", "aaaab", "abaabb"), of("abab", "ab", "aa/b")},
		{"*a*a*", of("aa", "aba", "baab"), of("a", "ba", "a/a")},
		{"*b/a*", of("b/a", "bb/aa", "abb/a"), of("ab/ba", "b/", "/a", "b/b/a")},
		{"*?", of("a", "ab", "?"), of("", "/", "a/", "/a")},
		{"?*", of("a", "ab"), of("", "/", "/a", "a/")},
		{"*?*?*", of("ab", "abc"), of("", "a", "a/", "/a", "a/b")},
		{"*[ab]", of("a", "xb", "ab"), of("", "x", "ax", "/a")},
		{"*\\*", of("*", "a*", "**"), of("", "a", "*a")},
	})
}

func TestQuestionMarks(t *testing.T) {
	all(t, []taken{
		{"?", of("a", "?", "*", "\n", "\x00", "\x80", "\xff"), of("", "/", "ab", "\xc3\xa9")},
		{"??", of("ab", "\xc3\xa9"), of("", "a", "abc", "a/", "/a")},
		{"a?c", of("abc", "a?c", "acc"), of("a/c", "ac", "abbc")},
		{"?/?", of("a/b"), of("a/", "/b", "///", "/", "a/bc", "abc")},
		{"a?", of("ab"), of("a", "a/", "abc")},
	})
}

func TestBackslashes(t *testing.T) {
	all(t, []taken{
		{"\\*", of("*"), of("", "a", "\\*", "\\", "**")},
		{"\\?", of("?"), of("", "a", "\\?")},
		{"\\[a]", of("[a]"), of("a", "\\a", "[a")},
		{"\\[", of("["), of("\\[", "")},
		{"\\]", of("]"), of("\\]", "")},
		{"\\a", of("a"), of("\\a", "")},
		{"\\n", of("n"), of("\n", "\\n")},
		{"\\/", of("/"), of("\\/", "a", "")},
		{"a\\/b", of("a/b"), of("a\\/b", "ab")},
		{"\\\xff", of("\xff"), of("\\\xff", "\\")},
		{"\\", of("\\"), of("", "\\\\", "a")},
		{"a\\", of("a\\"), of("a", "a\\\\", "\\a")},
		{"*\\", of("\\", "a\\"), of("", "a", "\\a", "/\\")},
		{"\\\\", of("\\"), of("\\\\", "")},
		{"\\\\\\", of("\\\\"), of("\\", "\\\\\\")},
		{"\\\\*", of("\\", "\\a"), of("*", "\\*/", "a")},
		{"\\\\a", of("\\a"), of("a", "\\\\a")},
	})
}

func TestSets(t *testing.T) {
	all(t, []taken{
		{"[abc]", of("a", "b", "c"), of("", "d", "ab", "[abc]", "A", "/")},
		{"[a]", of("a"), of("", "[a]", "[", "]")},
		{"x[ab]y", of("xay", "xby"), of("xy", "xaby", "xcy", "x/y")},
		{"[ab][cd]", of("ac", "bd"), of("ab", "ca", "a", "acd")},
		{"[*?]", of("*", "?"), of("", "a", "*?")},
		{"[aa]", of("a"), of("aa", "")},
		{"[!a]", of("b", "!", "^", "]", "\n", "\x00", "\xff"), of("", "a", "/", "bb")},
		{"[^a]", of("b", "!", "^"), of("", "a", "/")},
		{"[!^a]", of("b", "!"), of("^", "a", "/")},
		{"[^!a]", of("b", "^"), of("!", "a", "/")},
		{"[!!]", of("a", "^"), of("!", "/")},
		{"[^^]", of("a", "!"), of("^", "/")},
		{"[a!]", of("a", "!"), of("b", "^")},
		{"[a^]", of("a", "^"), of("b", "!")},
		{"[\\!a]", of("!", "a"), of("b", "\\")},
		{"[\\^a]", of("^", "a"), of("b", "\\")},
		{"[[]", of("["), of("", "]", "[[]")},
		{"[[a]", of("[", "a"), of("[a", "]")},
		{"[a[b]", of("a", "[", "b"), of("]", "ab")},
		{"[\x80\xff]", of("\x80", "\xff"), of("\x7f", "\x81", "\xfe")},
		{"[\xc3\xa9]", of("\xc3", "\xa9"), of("\xc3\xa9")},
	})
}

func TestSetsAtSlashes(t *testing.T) {
	all(t, []taken{
		{"[/]", nil, of("/", "", "[/]", "a")},
		{"[a/]", of("a"), of("/", "[a/]")},
		{"[\\/a]", of("a"), of("/", "\\")},
		{"[!/]", of("a", "!"), of("/", "")},
		{"[^a]", of("b"), of("/")},
		{"[!a/]", of("b"), of("/", "a")},
		{"[.-0]", of(".", "0"), of("/", "-", "1")},
		{"[/-1]", of("0", "1"), of("/", ".", "-")},
		{"[+-/]", of("+", ",", "-", "."), of("/", "0")},
		{"[!0-9]", of("a"), of("/", "5")},
		{"[![:alnum:]]", of("-"), of("/", "a")},
		{"a[/]b", nil, of("a/b", "ab")},
		{"a[!x]b", of("ayb"), of("a/b", "axb")},
		{"[a]/[b]", of("a/b"), of("ab", "a")},
	})
}

func TestClosingBrackets(t *testing.T) {
	all(t, []taken{
		{"[]]", of("]"), of("", "[]]", "[")},
		{"[]a]", of("]", "a"), of("b", "[", "]a]")},
		{"[a]]", of("a]"), of("a", "]")},
		{"[!]]", of("a", "!"), of("]", "/", "!]")},
		{"[!]a]", of("b", "!", "["), of("]", "a", "/")},
		{"[^]]", of("a", "^"), of("]", "/")},
		{"[^]a]", of("b", "^"), of("]", "a", "/")},
		{"[]-a]", of("]", "^", "_", "`", "a"), of("-", "b", "\\")},
		{"[]-]", of("]", "-"), of("a", "^")},
		{"[!]-a]", of("b", "-"), of("]", "_", "a")},
		{"[]!]", of("]", "!"), of("a")},
		{"[][]", of("]", "["), of("a", "][")},
		{"[\\]]", of("]"), of("\\", "\\]", "")},
		{"[\\]a]", of("]", "a"), of("\\")},
		{"[a\\]b]", of("a", "]", "b"), of("\\", "ab]")},
		{"[!\\]]", of("a", "\\"), of("]", "/")},
		{"[]\\]]", of("]"), of("\\", "]]")},
		{"[]]]", of("]]"), of("]")},
	})
}

func TestDashes(t *testing.T) {
	all(t, []taken{
		{"[a-c]", of("a", "b", "c"), of("", "d", "-", "`", "B")},
		{"[a-a]", of("a"), of("-", "b")},
		{"[a-cx-z]", of("a", "b", "y", "z"), of("d", "w", "-")},
		{"[0-9a-f]", of("0", "9", "a", "f"), of("g", ":", "A")},
		{"[!a-c]", of("d", "-"), of("a", "b", "c", "/")},
		{"[^a-c]", of("d", "-"), of("a", "b", "c", "/")},
		{"[c-a]", nil, of("", "a", "b", "c", "-", "[c-a]")},
		{"[c-ax]", of("x"), of("a", "b", "c", "-")},
		{"[!c-a]", of("a", "b", "c", "-"), of("/", "")},
		{"[-a]", of("-", "a"), of("b", ".", "")},
		{"[!-a]", of("b", ".", "!"), of("-", "a", "/")},
		{"[^-a]", of("b", "."), of("-", "a", "/")},
		{"[a-]", of("a", "-"), of("b", "]")},
		{"[!a-]", of("b"), of("a", "-", "/")},
		{"[-]", of("-"), of("", "a", "[-]")},
		{"[!-]", of("a", "!"), of("-", "/")},
		{"[--]", of("-"), of("a")},
		{"[---]", of("-"), of(",", ".")},
		{"[--0]", of("-", ".", "0"), of("/", ",", "1")},
		{"[+--]", of("+", ",", "-"), of("*", ".")},
		{"[a--]", nil, of("a", "-", "b")},
		{"[a-c-e]", of("a", "b", "c", "-", "e"), of("d")},
		{"[a-c-]", of("a", "b", "c", "-"), of("d")},
		{"[a-c-e-g]", of("b", "-", "e", "f", "g"), of("d")},
		{"[a-]b]", of("ab]", "-b]"), of("a", "b", "]")},
		{"[\\a-\\c]", of("a", "b", "c"), of("\\", "-", "d")},
		{"[\\a-c]", of("a", "b", "c"), of("\\", "-")},
		{"[a-\\c]", of("a", "b", "c"), of("\\", "-", "]")},
		{"[a\\-c]", of("a", "-", "c"), of("b", "\\")},
		{"[\\--0]", of("-", ".", "0"), of("/", "\\")},
		{"[+-\\-]", of("+", ",", "-"), of("\\", ".")},
		{"[\\]-a]", of("]", "_", "a"), of("\\", "-", "b")},
		{"[Z-\\]]", of("Z", "[", "\\", "]"), of("Y", "^", "-")},
		{"[Z-\\\\]", of("Z", "[", "\\"), of("]", "-")},
		{"[\\\\-a]", of("\\", "]", "a"), of("[", "-")},
		{"[!-~]", of("a", "!", "}"), of("-", "~", "/")},
		{"[\x80-\xff]", of("\x80", "\xc3", "\xff"), of("\x7f", "a", "-")},
		{"[a-\xff]", of("a", "\x7f", "\x80", "\xff"), of("`", "-")},
		{"[\x00-\x1f]", of("\x00", "\n", "\x1f"), of(" ", "-")},
	})
}

func TestClasses(t *testing.T) {
	all(t, []taken{
		{"[[:alpha:]]", of("a", "Z"), of("", "0", "_", ":", "[", "[:alpha:]", "a]")},
		{"[[:digit:]]", of("0", "9"), of("a", "d", ":", "[", "]", "/")},
		{"[[:alpha:][:space:]_]", of("a", "Z", " ", "\t", "\r", "_"), of("0", "\x08", "\x0e")},
		{"[x[:digit:]y]", of("x", "5", "y"), of("d", "[", ":")},
		{"[[:digit:]x]", of("5", "x"), of("x]", "5x")},
		{"[][:digit:]]", of("]", "5"), of("[", "d")},
		{"[!][:digit:]]", of("a", "["), of("]", "5", "/")},
		{"[-[:digit:]]", of("-", "5"), of("[", ".", "d")},
		{"[a-[:digit:]]", of("a", "-", "5"), of("b", "[", "d", ":")},
		{"[A-[:digit:]]", of("A", "-", "5"), of("B", "[", ":")},
		{"[a-c-[:digit:]]", of("a", "b", "c", "-", "5"), of("d", ".")},
		{"[--[:digit:]]", of("-", "5"), of(".", "[")},
		{"[[:digit:]-z]", of("5", "-", "z"), of("a", ":", "y")},
		{"[[:digit:]-]", of("5", "-"), of("a", "]")},
		{"[[:digit:]--0]", of("5", "-", "."), of("/", ":")},
		{"[[:digit:]-[:upper:]]", of("5", "-", "A"), of("a", ":", "[")},
		{"[[:digit:]a-c]", of("5", "b"), of("-", "d")},
		{"[:digit:]", of(":", "d", "i", "g", "t"), of("5", "[", "]")},
		{"[:alpha:]]", of("a]", ":]"), of("b]", "a")},
		{"[\\[:digit:]]", of("[]", ":]", "d]"), of("5", "5]", "d")},
		{"[[\\:digit:]]", of("[]", ":]", "d]"), of("5", "5]", "\\]")},
		{"[[:digit\\:]]", of("[]", ":]", "d]"), of("5", "\\]")},
		{"[[[:digit:]]", of("[", "5"), of(":", "d")},
		{"[[:[:digit:]]", of("[", ":", "5"), of("d")},
	})
}

func TestClassesOfOtherNames(t *testing.T) {
	for _, name := range []string{"foo", "Digit", "DIGIT", "digits", "digi", "xdigit", "punct", "blank", "word", "cntrl", " digit", "d"} {
		p := "[[:" + name + ":]]"
		all(t, []taken{{p, of("[]", ":]", name[:1]+"]", name[len(name)-1:]+"]"), of("", "[", ":", name[:1], "5", "5]", "\x01]", "]")}})
	}
	all(t, []taken{
		{"[[::]]", of("[]", ":]"), of("[", ":", "]")},
		{"[[:]]", of("[]", ":]"), of("[", ":")},
		{"[[:]", of("[", ":"), of("]", "[:")},
		{"[[:digit]]", of("[]", ":]", "d]"), of("5", "5]", "d")},
		{"[[:digit:x]", of("[", ":", "d", "x"), of("5", "]")},
		{"[[digit:]]", of("[]", "d]", ":]"), of("5", "5]")},
		{"[[.digit.]]", of("[]", ".]", "d]"), of("5", ":]")},
		{"[[=a=]]", of("[]", "=]", "a]"), of("a", "=")},
		{"[[:foo:][:digit:]]", of("[d]", "fi]", ":g]"), of("5", "f", "f5")},
		{"[a-[:foo:]]", of(":]", "f]", "o]"), of("a]", "-]", "[]", "5]", "f")},
		{"[A-[:foo:]]", of("A]", "B]", "[]", ":]", "f]"), of("-]", "a]", "\\]", "A")},
		{"[![:foo:]]", of("a]", "!]"), of("[]", ":]", "f]", "/]", "a")},
	})
}

func TestBracketsWithoutEnd(t *testing.T) {
	all(t, []taken{
		{"[", of("["), of("", "[[", "a")},
		{"[a", of("[a"), of("", "a", "[", "[b")},
		{"[]", of("[]"), of("", "]", "[")},
		{"[!", of("[!"), of("!", "a", "[")},
		{"[!]", of("[!]"), of("!", "a", "]")},
		{"[^]", of("[^]"), of("^", "a", "]")},
		{"[]a", of("[]a"), of("a", "]", "]a")},
		{"[a-", of("[a-"), of("a", "-")},
		{"[a-c", of("[a-c"), of("b", "[b")},
		{"[[", of("[["), of("[", "")},
		{"[[a", of("[[a"), of("[a", "a")},
		{"x[", of("x["), of("x", "[")},
		{"[*", of("[", "[x", "[*"), of("", "x", "[/")},
		{"[?", of("[x", "[?"), of("[", "x", "[/")},
		{"[/", of("[/"), of("/", "[")},
		{"[a/b", of("[a/b"), of("a/b", "a")},
		{"[\\", of("[\\"), of("[", "\\")},
		{"[\\a", of("[a"), of("[\\a", "a")},
		{"[\\]", of("[]"), of("]", "[\\]", "\\")},
		{"[a\\]", of("[a]"), of("a", "[a\\]", "]")},
		{"[a-\\]", of("[a-]"), of("a", "]", "[a-\\]")},
		{"[[:digit:]", of("[:", "[d", "[t"), of("5", "[5", "[", "d", "[[:digit:]")},
		{"[![:digit:]", of("[!:", "[!d"), of("a", "[!5", "[!a")},
		{"[a[:digit:]", of("[ad", "[a:"), of("[a5", "a", "5")},
		{"[a-[:digit:]b", of("[a-db", "[a-:b"), of("[a-5b", "ab", "5b")},
		{"[\\][:digit:]", of("[]d", "[]:"), of("]", "[]5", "[\\]d")},
		{"[[:digit:][:alpha:]", of("[da", "[::"), of("[5a", "[a5", "5", "a")},
		{"[x*[:digit:]*", of("[xd", "[xyzd", "[x:y"), of("x", "[x", "[x5", "[x/d")},
	})
}

// Each byte that no rule names stands for itself alone, and so does each behind a backslash.
func TestEachByte(t *testing.T) {
	for a := range 256 {
		for b := range 256 {
			same, slash := a == b, b == '/'
			for _, x := range []struct {
				pattern string
				want    bool
			}{
				{one(a), same || a == '*' && !slash || a == '?' && !slash},
				{"\\" + one(a), same},
				{"[\\" + one(a) + "]", same && !slash},
				{"[!\\" + one(a) + "]", !same && !slash},
				{"[^\\" + one(a) + "]", !same && !slash},
				{"[x\\" + one(a) + "]", (same || b == 'x') && !slash},
			} {
				if got := glob.Match(x.pattern, one(b)); got != x.want {
					t.Errorf("P501: Match(%q, %q): %v", x.pattern, one(b), got)
				}
			}
		}
	}
}

// Each byte in each place of a set, held against the slow reading.
func TestEachByteInSets(t *testing.T) {
	for a := range 256 {
		for _, p := range []string{"[?]", "[?b]", "[b?]", "[a?c]", "[?-m]", "[L-?]", "[!?]", "[?!]", "[[:?lpha:]]", "[[?alpha:]]", "[[:alpha?]]", "?"} {
			p = strings.ReplaceAll(p, "?", one(a))
			for b := range 256 {
				check(t, "P501", p, one(b))
			}
			check(t, "P501", p, p)
		}
	}
}

func TestEachByteOfClasses(t *testing.T) {
	for c := range 256 {
		digit := '0' <= c && c <= '9'
		upper := 'A' <= c && c <= 'Z'
		lower := 'a' <= c && c <= 'z'
		for _, x := range []struct {
			name string
			want bool
		}{
			{"alpha", upper || lower},
			{"digit", digit},
			{"upper", upper},
			{"lower", lower},
			{"alnum", upper || lower || digit},
			{"space", 9 <= c && c <= 13 || c == 32},
		} {
			in, out := "[[:"+x.name+":]]", "[![:"+x.name+":]]"
			if got := glob.Match(in, one(c)); got != x.want {
				t.Errorf("P501: Match(%q, %q): %v", in, one(c), got)
			}
			if got, want := glob.Match(out, one(c)), !x.want && c != '/'; got != want {
				t.Errorf("P501: Match(%q, %q): %v", out, one(c), got)
			}
		}
	}
}

func TestRows(t *testing.T) {
	ends := []int{0, 1, '!', '-', '.', '/', '0', 'A', '[', '\\', ']', '^', 'a', 'z', 62, 63, 64, 65, 126, 127, 128, 129, 190, 191, 192, 193, 254, 255}
	for _, from := range ends {
		for _, to := range ends {
			p := "[\\" + one(from) + "-\\" + one(to) + "]"
			for c := range 256 {
				if got, want := glob.Match(p, one(c)), from <= c && c <= to && c != '/'; got != want {
					t.Errorf("P501: Match(%q, %q): %v", p, one(c), got)
				}
			}
		}
	}
}

// To try all lengths for each star, or to look for a `]` up to the end again and again, would not end in time.
func TestLong(t *testing.T) {
	many := func(s string) string { return strings.Repeat(s, 3000) }
	all(t, []taken{
		{many("*"), of("", "a", many("a")), of("/", many("a")+"/")},
		{many("*a"), of(many("a"), many("ba"), many("aa")), of(many("a")[1:], many("a")+"b", many("ab"))},
		{many("*a*"), of(many("a")), of(many("a")[1:], many("b"))},
		{many("*/"), of(many("/"), many("a/")), of(many("/")[1:], many("/")+"/", many("/")+"a")},
		{"*" + many("a") + "b", of(many("a")+"b", many("aa")+"b"), of(many("aa"), many("a")[1:]+"b", many("a")+"/b")},
		{many("*?"), of(many("a"), many("ab")), of(many("a")[1:], many("a")[1:]+"/")},
		{many("[ab]"), of(many("a"), many("b")), of(many("a")+"a", many("c"), "")},
		{"[" + many("ab") + "]", of("a", "b"), of("c", "ab", "")},
		{"[" + many("c-a") + "x]", of("x"), of("a", "-", "")},
		{many("\\a"), of(many("a")), of(many("\\a"), many("a")+"a")},
	})
	const size = 100000
	for _, x := range []struct{ piece, is, end, ended string }{
		{"[", "[", "", ""},
		{"[", "[", "\\]", "]"},
		{"[!", "[!", "", ""},
		{"[", "[", "[:digit:]", "d"},
		{"[[:digit:]", "[d", "", ""},
		{"[\\]", "[]", "", ""},
		{"[a-", "[a-", "", ""},
	} {
		p, s := strings.Repeat(x.piece, size)+x.end, strings.Repeat(x.is, size)+x.ended
		if !glob.Match(p, s) || glob.Match(p, s+"/") || glob.Match(p, s[1:]) {
			t.Errorf("P501: %d of %q, and %q: not so", size, x.piece, x.end)
		}
	}
}

// An answer that was kept would stay when the bytes that were handed in change.
func TestNothingIsKeptOrChanged(t *testing.T) {
	const was = "[a-c]*.goxb.goy"
	room := []byte(was)
	pattern, name := unsafe.String(&room[0], 9), unsafe.String(&room[10], 4)
	for range 3 {
		if !glob.Match(pattern, name) {
			t.Errorf("P502: Match(%q, %q): false", pattern, name)
		}
		if string(room) != was {
			t.Fatalf("P502: what was handed in has become %q", room)
		}
	}
	room[10] = 'd'
	if glob.Match(pattern, name) {
		t.Errorf("P502: Match(%q, %q) answers as it did for other bytes", pattern, name)
	}
	room[3] = 'd'
	if !glob.Match(pattern, name) {
		t.Errorf("P502: Match(%q, %q) answers as it did for another pattern", pattern, name)
	}
	if string(room) != "[a-d]*.goxd.goy" {
		t.Errorf("P502: what was handed in has become %q", room)
	}
}

// samples lists patterns and names of all kinds.
func samples() (patterns, names []string) {
	patterns = of("", "*", "?", "a", "\\", "\\*", "[a-c]", "[!a]", "[", "[]", "[a", "[[:digit:]]", "[[:digit:]", "*/*", "a*b", "[c-a]", "\xff")
	names = of("", "a", "b", "5", "/", "\\", "*", "[", "[]", "[a", "[d", "a/b", "ab", "axb", "\xff")
	return patterns, names
}

func TestAnswersHangOnArgumentsAlone(t *testing.T) {
	patterns, names := samples()
	for _, p := range patterns {
		for _, s := range names {
			for _, q := range patterns {
				check(t, "P502", p, s)
				glob.Match(q, s)
				glob.Match(q, p)
			}
			check(t, "P502", p, s)
		}
	}
}

func TestCallsSideBySide(t *testing.T) {
	patterns, names := samples()
	var all sync.WaitGroup
	for range 8 {
		all.Go(func() {
			for _, p := range patterns {
				for _, s := range names {
					check(t, "P502", p, s)
				}
			}
		})
	}
	all.Wait()
}

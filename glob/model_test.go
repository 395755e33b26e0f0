package glob_test

import (
	"slices"
	"strings"
	"testing"

	"patchwork/glob"
)

// What is read here slowly, by the words of the chapter, the package must answer.

// slowMatch tries all lengths for each star.
func slowMatch(p, s string) bool {
	if p == "" {
		return s == ""
	}
	if p[0] == '*' {
		for n := 0; ; n++ {
			if slowMatch(p[1:], s[n:]) {
				return true
			}
			if n == len(s) || s[n] == '/' {
				return false
			}
		}
	}
	if s == "" {
		return false
	}
	takes, rest := slowByte(p, s[0])
	return takes && slowMatch(rest, s[1:])
}

// slowByte tells whether the beginning of a pattern, no star, takes a byte, and what is left of it.
func slowByte(p string, c byte) (bool, string) {
	switch {
	case p[0] == '?':
		return c != '/', p[1:]
	case p[0] == '\\' && len(p) > 1:
		return c == p[1], p[2:]
	case p[0] == '[':
		if takes, rest, ok := slowSet(p[1:], c); ok {
			return takes, rest
		}
	}
	return c == p[0], p[1:]
}

// item of a set: a class, or a byte, which may be an escaped one.
type item struct {
	class   string
	c       byte
	escaped bool
}

var classes = []string{"alpha", "digit", "upper", "lower", "alnum", "space"}

// isIn tells whether a class has a byte.
func isIn(class string, c byte) bool {
	const upper, lower, digits = "ABCDEFGHIJKLMNOPQRSTUVWXYZ", "abcdefghijklmnopqrstuvwxyz", "0123456789"
	bytes := ""
	switch class {
	case "alpha":
		bytes = upper + lower
	case "digit":
		bytes = digits
	case "upper":
		bytes = upper
	case "lower":
		bytes = lower
	case "alnum":
		bytes = upper + lower + digits
	case "space":
		bytes = "\t\n\v\f\r "
	}
	return strings.IndexByte(bytes, c) >= 0
}

// slowItem reads the first item of what is left of a set.
func slowItem(p string) (item, string) {
	for _, name := range classes {
		if p[0] == '[' && strings.HasPrefix(p, "[:"+name+":]") {
			return item{class: name}, p[len("[::]")+len(name):]
		}
	}
	if p[0] == '\\' && len(p) > 1 {
		return item{c: p[1], escaped: true}, p[2:]
	}
	return item{c: p[0]}, p[1:]
}

// slowSet tells whether the set whose `[` stands ahead of p has a byte, and
// what is behind it; false: it is none.
func slowSet(p string, c byte) (takes bool, rest string, ok bool) {
	others := strings.HasPrefix(p, "!") || strings.HasPrefix(p, "^")
	if others {
		p = p[1:]
	}
	var items []item
	for len(items) == 0 || p == "" || p[0] != ']' {
		if p == "" {
			return false, "", false
		}
		var x item
		x, p = slowItem(p)
		items = append(items, x)
	}
	return c != '/' && among(items, c) != others, p[1:], true
}

// among tells whether one of the items of a set is a byte, or has it.
func among(items []item, c byte) bool {
	for i := 0; i < len(items); i++ {
		x := items[i]
		if x.class != "" {
			if isIn(x.class, c) {
				return true
			}
			continue
		}
		if i+2 < len(items) && items[i+1] == (item{c: '-'}) && items[i+2].class == "" {
			if x.c <= c && c <= items[i+2].c {
				return true
			}
			i += 2
			continue
		}
		if x.c == c {
			return true
		}
	}
	return false
}

// check holds Match against slowMatch.
func check(t *testing.T, promise, pattern, name string) {
	t.Helper()
	if got, want := glob.Match(pattern, name), slowMatch(pattern, name); got != want {
		t.Errorf("%s: Match(%q, %q): %v", promise, pattern, name, got)
	}
}

// rows calls do with all texts of up to most of these pieces.
func rows(pieces []string, most int, do func(s string)) {
	do("")
	if most == 0 {
		return
	}
	for _, x := range pieces {
		rows(pieces, most-1, func(s string) { do(x + s) })
	}
}

// listed answers what rows calls with.
func listed(pieces []string, most int) []string {
	var out []string
	rows(pieces, most, func(s string) { out = append(out, s) })
	return out
}

// letters cuts a text into its bytes.
func letters(s string) []string {
	return strings.Split(s, "")
}

func TestAllShortRows(t *testing.T) {
	names := listed(letters("ab/"), 5)
	rows(letters("*?ab/"), 5, func(p string) {
		for _, s := range names {
			check(t, "P501", p, s)
		}
	})
}

func TestAllShortPatterns(t *testing.T) {
	names := append(listed(letters("a!-]\\[/"), 2), "[a]", "[]", "[!]", "[-]", "[a-", "[[]", "[\\]", "[a/]")
	rows(letters("a!-]\\[/*"), 5, func(p string) {
		for _, s := range names {
			check(t, "P501", p, s)
		}
		check(t, "P501", p, p)
		check(t, "P501", p, strings.ReplaceAll(p, "\\", ""))
	})
}

func TestAllShortSets(t *testing.T) {
	const bytes = "ac-]![^5:d \\/"
	names := listed(letters(bytes), 1)
	for _, end := range []string{"]", "]x"} {
		for _, c := range letters(bytes) {
			names = append(names, c+end)
		}
	}
	pieces := []string{"a", "c", "-", "]", "!", "^", "[", "\\", "[:digit:]", "[:foo:]"}
	rows(pieces, 4, func(p string) {
		for _, end := range []string{"]", "-]", "]*"} {
			for _, s := range names {
				check(t, "P501", "["+p+end, s)
			}
		}
		check(t, "P501", "["+p, "["+p)
		check(t, "P501", "["+p, "["+strings.ReplaceAll(p, "\\", ""))
	})
}

// A `[` without a `]` leaves those behind it what they are.
func TestAllShortRowsOfBrackets(t *testing.T) {
	names := listed(letters("[]:5"), 4)
	pieces := []string{"[", "]", "\\]", "[:digit:]", "[!", "-", ":"}
	found := 0
	rows(pieces, 4, func(p string) {
		for _, s := range names {
			check(t, "P501", p, s)
			if slowMatch(p, s) {
				found++
			}
		}
	})
	if found < 1000 {
		t.Errorf("P501: %d match", found)
	}
}

// chance makes numbers, the same ones each time.
type chance uint32

func (c *chance) next(most int) int {
	*c = *c*1664525 + 1013904223
	return int(*c>>9) % most
}

func TestLongRowsOfBrackets(t *testing.T) {
	pieces := []string{"[", "]", "\\]", "[:digit:]", "[!", "-", ":", "a", "\\", "*", "[:foo:]", "["}
	c, found := chance(1), 0
	for range 30000 {
		p, s := "", ""
		for range c.next(14) {
			x := pieces[c.next(len(pieces))]
			p += x
			// What a piece may stand for: itself, a byte that it has, or no more than its escaped one.
			switch c.next(3) {
			case 0:
				s += x
			case 1:
				s += x[len(x)-1:]
			case 2:
				s += x[:1]
			}
		}
		check(t, "P501", p, s)
		check(t, "P501", p, strings.ReplaceAll(s, "\\", ""))
		if slowMatch(p, s) {
			found++
		}
	}
	if found < 1000 {
		t.Errorf("P501: %d match", found)
	}
}

// The slow reading holds for what the chapter's own words say of single ones.
func TestSlowMatch(t *testing.T) {
	yes := [][2]string{{"*.go", "a.go"}, {"[]a]", "]"}, {"[a-c]", "b"}, {"[!a]", "b"}, {"[[:digit:]]", "5"}, {"[\\]]", "]"}, {"[a", "[a"}, {"a\\", "a\\"}}
	no := [][2]string{{"*.go", "a/b.go"}, {"[c-a]", "b"}, {"[!a]", "/"}, {"?", "/"}, {"[a]", "[a]"}, {"[\\]]", "\\"}}
	for _, x := range slices.Concat(yes, no) {
		if got, want := slowMatch(x[0], x[1]), slices.Contains(yes, x); got != want {
			t.Errorf("P501: the slow reading of %q, %q: %v", x[0], x[1], got)
		}
	}
}

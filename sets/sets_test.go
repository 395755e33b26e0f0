package sets_test

import (
	"testing"

	"patchwork/sets"
)

// plain takes each byte as itself; marked leaves a `%` ahead of a byte out.
func plain(text string, at int) (byte, int) { return text[at], at + 1 }
func marked(text string, at int) (byte, int) {
	if text[at] == '%' && at+1 < len(text) {
		return text[at+1], at + 2
	}
	return text[at], at + 1
}

// of makes a set of the bytes of a text.
func of(s string) sets.Set {
	var out sets.Set
	for i := range len(s) {
		out = out.With(sets.Span(s[i], s[i]))
	}
	return out
}

func TestSets(t *testing.T) {
	for first := range 256 {
		for last := range 256 {
			s := sets.Span(byte(first), byte(last))
			for c := range 256 {
				in := first <= c && c <= last
				if s.Has(byte(c)) != in || s.Others().Has(byte(c)) == in || s.Without(byte(c)).Has(byte(c)) {
					t.Fatalf("Span(%d, %d) and %d: not so", first, last, c)
				}
			}
			if !s.Has(byte(first)) && s.With(sets.Span(byte(first), byte(first))) != sets.Span(byte(first), byte(first)) {
				t.Fatalf("Span(%d, %d) is not none", first, last)
			}
		}
	}
	if of("abc").Without('b') != of("ac") || of("abc").Without('x') != of("abc") {
		t.Error("Without takes another byte, or none")
	}
}

func TestRead(t *testing.T) {
	for _, x := range []struct {
		text  string
		one   sets.OneByte
		bytes string
		end   int
		ok    bool
	}{
		{"ab]c", plain, "ab", 3, true},
		{"]a]]", plain, "]a", 3, true},
		{"a-d-f]", plain, "abcd-f", 6, true},
		{"-a-]", plain, "-a", 4, true},
		{"d-a]", plain, "", 4, true},
		{"a-[:digit:]]", plain, "a-0123456789", 12, true},
		{"[:foo:]]", plain, "[:fo", 7, true},
		{"%]]", plain, "%", 2, true},
		{"%]]", marked, "]", 3, true},
		{"%a-%c]", marked, "abc", 6, true},
		{"a%-c]", marked, "a-c", 5, true},
		{"", plain, "", 0, false},
		{"]", plain, "", 0, false},
		{"a", plain, "", 0, false},
		{"a-", plain, "", 0, false},
		{"[:digit:]", plain, "", 0, false},
		{"a%]", marked, "", 0, false},
	} {
		for _, ahead := range []string{"", "[", "x]["} {
			end := x.end
			if x.ok {
				end += len(ahead)
			}
			got, at, ok := sets.Read(ahead+x.text, len(ahead), x.one)
			if got != of(x.bytes) || at != end || ok != x.ok {
				t.Errorf("Read(%q, %d): %v, %d, %v", ahead+x.text, len(ahead), got, at, ok)
			}
		}
	}
}

func TestIsClass(t *testing.T) {
	for _, x := range []struct {
		text string
		want bool
	}{
		{"[:alpha:]", true}, {"[:digit:]", true}, {"[:upper:]", true}, {"[:lower:]", true}, {"[:alnum:]", true}, {"[:space:]", true},
		{"[:digit:]x", true}, {"[:punct:]", false}, {"[:Digit:]", false}, {"[:digit:", false}, {":digit:]", false}, {"", false},
	} {
		if got := sets.IsClass("ab"+x.text, 2); got != x.want {
			t.Errorf("IsClass(%q): %v", x.text, got)
		}
	}
}

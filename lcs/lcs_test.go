package lcs_test

import (
	"slices"
	"strconv"
	"strings"
	"testing"

	"patchwork/api"
	"patchwork/apply"
	"patchwork/lcs"
	"patchwork/ops"
)

// keep, del, ins make steps, steps and rows list them and lines.
func keep(s string) api.Op       { return api.Op{Kind: api.Keep, Text: s} }
func del(s string) api.Op        { return api.Op{Kind: api.Del, Text: s} }
func ins(s string) api.Op        { return api.Op{Kind: api.Ins, Text: s} }
func steps(l ...api.Op) []api.Op { return l }
func row(l ...string) []string   { return l }

// letters makes a row with a line for each letter.
func letters(s string) []string {
	var out []string
	for _, one := range strings.Split(s, "") {
		out = append(out, one+"\n")
	}
	return out
}

// drawn makes steps of pairs such as =a, -b and +c.
func drawn(s string) []api.Op {
	var out []api.Op
	for i := 0; i < len(s); i += 2 {
		kind := map[byte]int{'=': api.Keep, '-': api.Del, '+': api.Ins}[s[i]]
		out = append(out, api.Op{Kind: kind, Text: s[i+1:i+2] + "\n"})
	}
	return out
}

// want holds both calls against what must come.
func want(t *testing.T, a, b []string, long int, l []api.Op) {
	t.Helper()
	if got := lcs.Len(a, b); got != long {
		t.Errorf("P1201: Len of %q and %q: %d; wanted %d", a, b, got, long)
	}
	if got := lcs.Diff(a, b); !slices.Equal(got, l) {
		t.Errorf("P1201: Diff of %q and %q: %#v; wanted %#v", a, b, got, l)
	}
}

func TestNoneAndNone(t *testing.T) {
	nones := [][]string{nil, {}, make([]string, 0, 3), row("a\n", "b\n")[:0]}
	for _, a := range nones {
		for _, b := range nones {
			want(t, a, b, 0, nil)
		}
		want(t, a, row("a\n", "b\n", "z"), 0, steps(ins("a\n"), ins("b\n"), ins("z")))
		want(t, row("a\n", "b\n", "z"), a, 0, steps(del("a\n"), del("b\n"), del("z")))
	}
}

func TestShortRows(t *testing.T) {
	for _, x := range []struct {
		a, b string
		long int
		want string
	}{
		{"a", "a", 1, "=a"},
		{"abc", "abc", 3, "=a=b=c"},
		{"aaaa", "aaaa", 4, "=a=a=a=a"},
		// Nothing is in both: first all that goes.
		{"a", "b", 0, "-a+b"},
		{"ab", "cd", 0, "-a-b+c+d"},
		{"a", "bcd", 0, "-a+b+c+d"},
		{"abc", "d", 0, "-a-b-c+d"},
		// One is in the other.
		{"abc", "ac", 2, "=a-b=c"},
		{"ac", "abc", 2, "=a+b=c"},
		{"abc", "b", 1, "-a=b-c"},
		{"b", "abc", 1, "+a=b+c"},
		{"axbxc", "abc", 3, "=a-x=b-x=c"},
		{"abc", "axxbxxc", 3, "=a+x+x=b+x+x=c"},
		{"abcde", "e", 1, "-a-b-c-d=e"},
		{"e", "abcde", 1, "+a+b+c+d=e"},
		// Where either line could be had, what goes comes first.
		{"ab", "ba", 1, "-a=b+a"},
		{"ba", "ab", 1, "-b=a+b"},
		{"abc", "cba", 1, "-a-b=c+b+a"},
		{"abcd", "badc", 2, "-a=b-c+a=d+c"},
		{"abcd", "cdab", 2, "-a-b=c=d+a+b"},
		{"xab", "aby", 2, "-x=a=b+y"},
		{"axb", "ayb", 2, "=a-x+y=b"},
		{"abx", "cdx", 1, "-a-b+c+d=x"},
		{"abcabba", "cbabac", 4, "-a-b=c-a=b+a=b=a+c"},
		// What comes is first, if without that line of a's less would be had.
		{"ab", "xab", 2, "+x=a=b"},
		{"abd", "cabd", 3, "+c=a=b=d"},
		{"abc", "xyabc", 3, "+x+y=a=b=c"},
		{"abcq", "dabc", 3, "+d=a=b=c-q"},
		{"bcd", "abcd", 3, "+a=b=c=d"},
		{"bcdx", "cbcdy", 3, "+c=b=c=d-x+y"},
		// The same line at the first place where both have it
		{"x", "xx", 1, "=x+x"},
		{"xx", "x", 1, "=x-x"},
		{"aab", "ab", 2, "=a-a=b"},
		{"ab", "aab", 2, "=a+a=b"},
		{"abab", "ab", 2, "=a=b-a-b"},
		{"ab", "abab", 2, "=a=b+a+b"},
		{"xaxa", "xa", 2, "=x=a-x-a"},
		{"aba", "aa", 2, "=a-b=a"},
		{"aabaa", "aaa", 3, "=a=a-b=a-a"},
		{"aaa", "aabaa", 3, "=a=a+b=a+a"},
		{"baa", "aab", 2, "-b=a=a+b"},
		{"aab", "baa", 2, "+b=a=a-b"},
		{"abb", "bba", 2, "-a=b=b+a"},
		{"bba", "abb", 2, "+a=b=b-a"},
	} {
		want(t, letters(x.a), letters(x.b), x.long, drawn(x.want))
	}
}

// Lines are the same only if all bytes are; there is no text that a row can't have.
func TestAnyTexts(t *testing.T) {
	texts := row("", "a", "a\n", "A\n", "a\r\n", " a\n", "a \n", "a\nb\n", "a\nb", "\n", "\n\n", "\x00", "\x00\n", "\xff\n", "\xfe\n", "\xff\xfe\n", "\u00e9\n", "e\u0301\n", strings.Repeat("x", 5000)+"\n", strings.Repeat("x", 4999)+"y\n")
	for _, one := range texts {
		for _, other := range texts {
			if one == other {
				want(t, row(one), row(other), 1, steps(keep(one)))
				continue
			}
			want(t, row(one), row(other), 0, steps(del(one), ins(other)))
			want(t, row(one, other), row(other), 1, steps(del(one), keep(other)))
			want(t, row(other), row(one, other), 1, steps(ins(one), keep(other)))
			want(t, row(one, other, one), row(one, one, other), 2, steps(keep(one), del(other), keep(one), ins(other)))
		}
	}
	want(t, texts, texts[3:], len(texts)-3, append(steps(del(""), del("a"), del("a\n")), kept(texts[3:])...))
}

// kept answers steps that keep all lines.
func kept(l []string) []api.Op {
	var out []api.Op
	for _, line := range l {
		out = append(out, keep(line))
	}
	return out
}

func TestDiffIsDone(t *testing.T) {
	for _, x := range [][2][]string{
		{nil, row("a\n")},
		{row("a\n"), nil},
		{row("a\n", "b\n"), row("a\n", "b")},
		{row("a\n", "b"), row("a\n", "b\n")},
		{row("a"), row("b\n", "a\n")},
		{letters("abcdefg"), letters("xbcyefzg")},
		{letters("the old file"), letters("a newer file")},
		{append(letters("tail"), "z"), append(letters("trail"), "z")},
		{append(letters("tail"), "z"), append(letters("trail"), "y")},
	} {
		l := lcs.Diff(x[0], x[1])
		if got, ok := apply.Do(l, x[0]); !ok || !slices.Equal(got, x[1]) {
			t.Errorf("P1202: Diff of %q and %q: %#v, which makes %q, %v", x[0], x[1], l, got, ok)
		}
		if long := lcs.Len(x[0], x[1]); ops.Changes(l) != len(x[0])+len(x[1])-2*long {
			t.Errorf("P1202: Diff of %q and %q, with %d in common, is not as short as can be: %#v", x[0], x[1], long, l)
		}
	}
}

// numbers makes lines of the numbers from one up to another, without those that a step of every hits.
func numbers(from, to, every int) []string {
	var out []string
	for n := from; n < to; n++ {
		if n%every != 0 {
			out = append(out, strconv.Itoa(n)+"\n")
		}
	}
	return out
}

// Rows of one sort of line, of two, of all others: as long as they are, what is in both can be told ahead.
func TestLongRows(t *testing.T) {
	for _, n := range []int{62, 63, 64, 65, 66, 127, 128, 129, 191, 192, 193, 1000, 20000} {
		same, other := slices.Repeat(row("x\n"), n), slices.Repeat(row("y\n"), n)
		gone, come := drawn(strings.Repeat("-x", n)), drawn(strings.Repeat("+y", n))
		stay := drawn(strings.Repeat("=x", n))
		for i, x := range []struct {
			a, b []string
			long int
			want []api.Op
		}{
			{same, same, n, stay},
			{same, same[1:], n - 1, slices.Concat(stay[1:], gone[:1])},
			{same[1:], same, n - 1, slices.Concat(stay[1:], drawn("+x"))},
			{same, other, 0, slices.Concat(gone, come)},
			{slices.Concat(same, other), other, n, slices.Concat(gone, drawn(strings.Repeat("=y", n)))},
			{other, slices.Concat(same, other), n, slices.Concat(drawn(strings.Repeat("+x", n)), drawn(strings.Repeat("=y", n)))},
			{slices.Concat(same, other), slices.Concat(other, same), n, slices.Concat(gone, drawn(strings.Repeat("=y", n)), drawn(strings.Repeat("+x", n)))},
			{slices.Concat(row("a\n"), same, row("b\n")), slices.Concat(row("c\n"), same, row("d\n")), n, slices.Concat(drawn("-a+c"), stay, drawn("-b+d"))},
			{slices.Concat(row("a\n"), same, row("b\n")), slices.Concat(row("b\n"), same, row("a\n")), n, slices.Concat(drawn("-a+b"), stay, drawn("-b+a"))},
			{slices.Concat(same, row("b\n")), slices.Concat(row("b\n"), same), n, slices.Concat(drawn("+b"), stay, drawn("-b"))},
			{slices.Concat(row("b\n"), same), slices.Concat(same, row("b\n")), n, slices.Concat(drawn("-b"), stay, drawn("+b"))},
		} {
			if got := lcs.Len(x.a, x.b); got != x.long {
				t.Errorf("P1201: Len %d of rows of %d and %d: %d; wanted %d", i, len(x.a), len(x.b), got, x.long)
			}
			if got := lcs.Diff(x.a, x.b); !slices.Equal(got, x.want) {
				t.Errorf("P1201: Diff %d of rows of %d and %d: %d steps; wanted %d others", i, len(x.a), len(x.b), len(got), len(x.want))
			}
		}
	}
}

// Rows of a big file: what is the same is not gone through for each line that is not.
func TestBigRows(t *testing.T) {
	const n = 200000
	all := numbers(0, n, n+1)
	for _, x := range []struct {
		name string
		a, b []string
		long int
	}{
		{"one row", all, all, n - 1},
		{"without the first", all, all[1:], n - 2},
		{"without the last", all[:n-2], all, n - 2},
		{"some missing in one", all, numbers(0, n, 1000), n - n/1000},
		{"some missing in the other", numbers(0, n, 1000), all, n - n/1000},
		{"some missing in both", numbers(0, n, 1000), numbers(0, n, 999), n - 1 - (n-1)/1000 - (n-1)/999 + (n-1)/999000},
		{"nothing in common", all, numbers(n, 2*n, 2*n), 0},
		{"the end of one is the beginning of the other", all, numbers(n/2, n+n/2, 2*n), n / 2},
		{"the beginning of one is the end of the other", numbers(n/2, n+n/2, 2*n), all, n / 2},
		{"one line and all", all[n/2 : n/2+1], all, 1},
		{"all and one line", all, all[n/2 : n/2+1], 1},
	} {
		if got := lcs.Len(x.a, x.b); got != x.long {
			t.Errorf("P1201: %s: Len of rows of %d and %d: %d; wanted %d", x.name, len(x.a), len(x.b), got, x.long)
		}
		l := lcs.Diff(x.a, x.b)
		if got, ok := apply.Do(l, x.a); !ok || !slices.Equal(got, x.b) || ops.Changes(l) != len(x.a)+len(x.b)-2*x.long {
			t.Errorf("P1202: %s: Diff of rows of %d and %d: %d steps, which make %d lines, %v", x.name, len(x.a), len(x.b), len(l), len(got), ok)
		}
	}
}

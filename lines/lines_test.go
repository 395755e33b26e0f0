package lines_test

import (
	"slices"
	"strings"
	"testing"
	"unsafe"

	"patchwork/lines"
)

// texts calls do with every text of up to most of the bytes in of.
func texts(of string, most int, do func(s string)) {
	var grow func(s string)
	grow = func(s string) {
		do(s)
		if len(s) == most {
			return
		}
		for i := range len(of) {
			grow(s + of[i:i+1])
		}
	}
	grow("")
}

// slowRight says what a line is, in the chapter's words, byte by byte.
func slowRight(s string) bool {
	for i := range len(s) {
		if s[i] == 10 && i != len(s)-1 {
			return false
		}
	}
	return len(s) > 0
}

// slowSplit cuts byte by byte.
func slowSplit(s string) []string {
	var out []string
	line := ""
	for i := range len(s) {
		line += s[i : i+1]
		if s[i] == 10 {
			out = append(out, line)
			line = ""
		}
	}
	if line != "" {
		out = append(out, line)
	}
	return out
}

func TestRight(t *testing.T) {
	for _, x := range []struct {
		text string
		want bool
	}{
		{"", false},
		{"a", true},
		{"a\n", true},
		{"\n", true},
		{"\n\n", false},
		{"\n\n\n", false},
		{"\na", false},
		{"a\nb", false},
		{"a\nb\n", false},
		{"a\n\n", false},
		{"\r", true},
		{"\r\n", true},
		{"\n\r", false},
		{"a\rb\r\n", true},
		{"\x00\n", true},
		{"\xff\xfe", true},
		{"\u0085\u2028\v\f\n", true},
	} {
		if got := lines.Right(x.text); got != x.want {
			t.Errorf("P101: Right(%q): %v", x.text, got)
		}
	}
}

func TestRightOfEachByte(t *testing.T) {
	for b := range 256 {
		one := string([]byte{byte(b)})
		if !lines.Right(one) {
			t.Errorf("P101: Right(%q): false", one)
		}
		if got := lines.Right("a" + one + "a"); got != (b != 10) {
			t.Errorf("P101: Right of %q between others: %v", one, got)
		}
	}
}

func TestRightOfAllShortTexts(t *testing.T) {
	texts("a\n\r", 6, func(s string) {
		if got := lines.Right(s); got != slowRight(s) {
			t.Errorf("P101: Right(%q): %v", s, got)
		}
	})
}

func TestSplit(t *testing.T) {
	for _, x := range []struct {
		text string
		want []string
	}{
		{"", nil},
		{"a", []string{"a"}},
		{"a b c", []string{"a b c"}},
		{"\n", []string{"\n"}},
		{"\n\n\n", []string{"\n", "\n", "\n"}},
		{"a\n", []string{"a\n"}},
		{"a\nb", []string{"a\n", "b"}},
		{"a\nb\n", []string{"a\n", "b\n"}},
		{"a\n\n\nb\n\n", []string{"a\n", "\n", "\n", "b\n", "\n"}},
		{"\na", []string{"\n", "a"}},
		{"a\r\nb\rc\n\r", []string{"a\r\n", "b\rc\n", "\r"}},
		{"\x00\n\xff\n\u2028", []string{"\x00\n", "\xff\n", "\u2028"}},
		{"same\nsame\nsame\n", []string{"same\n", "same\n", "same\n"}},
	} {
		if got := lines.Split(x.text); !slices.Equal(got, x.want) {
			t.Errorf("P101: Split(%q): %q", x.text, got)
		}
	}
}

func TestSplitOfAllShortTexts(t *testing.T) {
	texts("a\n\r", 7, func(s string) {
		got := lines.Split(s)
		if !slices.Equal(got, slowSplit(s)) {
			t.Errorf("P101: Split(%q): %q", s, got)
		}
		if !lines.Whole(got) {
			t.Errorf("P101: Split(%q) is not Whole: %q", s, got)
		}
		if back := lines.Join(got); back != s {
			t.Errorf("P101: Split(%q) joined: %q", s, back)
		}
	})
}

func TestSplitOfManyLines(t *testing.T) {
	for _, n := range []int{1, 1000, 100000} {
		l := lines.Split(strings.Repeat("line\n", n) + "end")
		if len(l) != n+1 || l[0] != "line\n" || l[n-1] != "line\n" || l[n] != "end" {
			t.Errorf("P101: Split of %d lines and one: %d lines", n, len(l))
		}
	}
	long := strings.Repeat("x", 1<<20)
	if l := lines.Split(long + "\n" + long); !slices.Equal(l, []string{long + "\n", long}) {
		t.Errorf("P101: Split of two long lines: %d lines", len(l))
	}
}

func TestJoin(t *testing.T) {
	for _, x := range []struct {
		list []string
		want string
	}{
		{nil, ""},
		{[]string{}, ""},
		{[]string{""}, ""},
		{[]string{"", "", ""}, ""},
		{[]string{"a"}, "a"},
		{[]string{"a\n"}, "a\n"},
		{[]string{"a\n", "b\n"}, "a\nb\n"},
		{[]string{"a\n", "b"}, "a\nb"},
		{[]string{"\n", "\n"}, "\n\n"},
		{[]string{"a", "b"}, "ab"},
		{[]string{"a", "", "b\nc", "\xff\x00"}, "ab\nc\xff\x00"},
	} {
		if got := lines.Join(x.list); got != x.want {
			t.Errorf("P101: Join(%q): %q", x.list, got)
		}
	}
}

func TestWhole(t *testing.T) {
	for _, x := range []struct {
		list []string
		want bool
	}{
		{nil, true},
		{[]string{}, true},
		{[]string{"a"}, true},
		{[]string{"a\n"}, true},
		{[]string{"\n"}, true},
		{[]string{"a\n", "b"}, true},
		{[]string{"a\n", "b\n"}, true},
		{[]string{"\n", "\n", "\n"}, true},
		{[]string{"a\n", "\n", "\r"}, true},
		{[]string{""}, false},
		{[]string{"", "a\n"}, false},
		{[]string{"a\n", ""}, false},
		{[]string{"a\n", "", "b\n"}, false},
		{[]string{"a\nb"}, false},
		{[]string{"a\nb\n"}, false},
		{[]string{"\n\n"}, false},
		{[]string{"\na"}, false},
		{[]string{"a\n", "b\nc"}, false},
		{[]string{"a\nb\n", "c\n"}, false},
		{[]string{"a", "b"}, false},
		{[]string{"a", "b\n"}, false},
		{[]string{"a\n", "b", "c\n"}, false},
		{[]string{"a\n", "b\n", "c", "d"}, false},
		{[]string{"a\r", "b\n"}, false},
	} {
		if got := lines.Whole(x.list); got != x.want {
			t.Errorf("P101: Whole(%q): %v", x.list, got)
		}
	}
}

// A list is Whole just where it is what Split makes of its own text.
func TestWholeOfAllShortLists(t *testing.T) {
	var pieces []string
	texts("a\n", 3, func(s string) { pieces = append(pieces, s) })
	check := func(l ...string) {
		if got, want := lines.Whole(l), slices.Equal(l, slowSplit(strings.Join(l, ""))); got != want {
			t.Errorf("P101: Whole(%q): %v", l, got)
		}
	}
	for _, a := range pieces {
		check(a)
		for _, b := range pieces {
			check(a, b)
			for _, c := range pieces {
				check(a, b, c)
			}
		}
	}
}

// share tells whether two texts have memory in common.
func share(a, b string) bool {
	if a == "" || b == "" {
		return false
	}
	from := func(s string) uintptr { return uintptr(unsafe.Pointer(unsafe.StringData(s))) }
	return from(a) < from(b)+uintptr(len(b)) && from(b) < from(a)+uintptr(len(a))
}

func TestSplitAnswersNewMemory(t *testing.T) {
	for _, s := range []string{"a", "a\n", "a\nb", "one\ntwo\nthree\n"} {
		first, second := lines.Split(s), lines.Split(s)
		for _, line := range first {
			if share(line, s) {
				t.Errorf("P102: Split(%q): %q is a piece of what was handed in", s, line)
			}
			for _, other := range second {
				if share(line, other) {
					t.Errorf("P102: Split(%q): two answers share %q", s, line)
				}
			}
		}
		for i := range first {
			first[i] = "gone"
		}
		if !slices.Equal(second, slowSplit(s)) || !slices.Equal(lines.Split(s), slowSplit(s)) {
			t.Errorf("P102: Split(%q): one answer changes another", s)
		}
	}
}

func TestJoinAnswersNewMemory(t *testing.T) {
	for _, l := range [][]string{{"a\n"}, {"", "a"}, {"a\n", ""}, {"a\n", "b"}} {
		first, second := lines.Join(l), lines.Join(l)
		for _, line := range l {
			if share(first, line) {
				t.Errorf("P102: Join(%q) shares %q", l, line)
			}
		}
		if share(first, second) {
			t.Errorf("P102: Join(%q): two answers share memory", l)
		}
	}
}

func TestListsStayAsTheyAre(t *testing.T) {
	for _, was := range [][]string{
		{"a\n", "b\n", "spare", ""},
		{"a", "b\nc", "spare", "\n"},
		{"", "", "", ""},
	} {
		room := slices.Clone(was)
		l := room[:2]
		joined, whole := lines.Join(l), lines.Whole(l)
		if !slices.Equal(room, was) {
			t.Errorf("P102: %q has become %q", was, room)
		}
		if lines.Join(l) != joined || lines.Whole(l) != whole {
			t.Errorf("P102: asked twice, %q has other answers", l)
		}
		l[0], l[1] = "x\n", "y"
		if joined != was[0]+was[1] {
			t.Errorf("P102: Join of %q hangs on the list that was handed in", was[:2])
		}
		if lines.Join(l) != "x\ny" || !lines.Whole(l) {
			t.Errorf("P102: what was handed in earlier is kept")
		}
	}
}

func TestAnswersHangOnArgumentsAlone(t *testing.T) {
	all := []string{"", "a", "\n", "a\nb", "a\n", "\n\n", "a"}
	for _, a := range all {
		for _, b := range all {
			right, split := lines.Right(a), lines.Split(a)
			lines.Right(b)
			lines.Split(b)
			lines.Join([]string{b, b})
			lines.Whole([]string{b, b})
			if lines.Right(a) != right || !slices.Equal(lines.Split(a), split) {
				t.Errorf("P102: behind %q the answers to %q are others", b, a)
			}
		}
	}
}

package paths_test

import (
	"math"
	"slices"
	"strings"
	"testing"
	"unsafe"

	"patchwork/paths"
)

// texts calls do with every text of up to most of the bytes in of.
func texts(of string, most int, do func(s string)) {
	var grow func(s string)
	grow = func(s string) {
		do(s)
		if len(s) == most {
			return
		}
		for i := range len(of) {
			grow(s + of[i:i+1])
		}
	}
	grow("")
}

// slowParts gathers byte by byte.
func slowParts(s string) []string {
	var out []string
	part := ""
	for i := range len(s) {
		if s[i] != '/' {
			part += s[i : i+1]
			continue
		}
		if part != "" {
			out = append(out, part)
		}
		part = ""
	}
	if part != "" {
		out = append(out, part)
	}
	return out
}

// slowBase takes the last of what slowParts answers.
func slowBase(s string) string {
	parts := slowParts(s)
	if len(parts) == 0 {
		return ""
	}
	return parts[len(parts)-1]
}

// slowStrip marks where each row of slashes ends, and takes the n-th of these
// places, or the last.
func slowStrip(s string, n int) string {
	ends := []int{0}
	for i := range len(s) {
		if s[i] == '/' && (i+1 == len(s) || s[i+1] != '/') {
			ends = append(ends, i+1)
		}
	}
	return s[ends[max(0, min(n, len(ends)-1))]:]
}

// check holds all three calls against the slow ones.
func check(t *testing.T, promise, s string) {
	t.Helper()
	if got, want := paths.Parts(s), slowParts(s); !slices.Equal(got, want) {
		t.Errorf("%s: Parts(%q): %q; wanted %q", promise, s, got, want)
	}
	if got, want := paths.Base(s), slowBase(s); got != want {
		t.Errorf("%s: Base(%q): %q; wanted %q", promise, s, got, want)
	}
	for n := -2; n <= len(s)+2; n++ {
		checkStrip(t, promise, s, n)
	}
	checkStrip(t, promise, s, math.MinInt)
	checkStrip(t, promise, s, math.MaxInt)
}

// checkStrip holds Strip against slowStrip.
func checkStrip(t *testing.T, promise, s string, n int) {
	t.Helper()
	if got, want := paths.Strip(s, n), slowStrip(s, n); got != want {
		t.Errorf("%s: Strip(%q, %d): %q; wanted %q", promise, s, n, got, want)
	}
}

func TestStrip(t *testing.T) {
	for _, x := range []struct {
		name string
		n    int
		want string
	}{
		{"a/b/c", 0, "a/b/c"},
		{"a/b/c", 1, "b/c"},
		{"a/b/c", 2, "c"},
		{"a/b/c", 3, "c"},
		{"a/b/c", 4, "c"},
		{"a/b/c", math.MaxInt, "c"},
		{"a/b/c", -1, "a/b/c"},
		{"a/b/c", math.MinInt, "a/b/c"},
		{"src/main/x.go", 1, "main/x.go"},
		{"name", 0, "name"},
		{"name", 1, "name"},
		{"name", 2, "name"},
		{"name", math.MaxInt, "name"},
		{"", 0, ""},
		{"", 1, ""},
		{"", -1, ""},
		{"", math.MaxInt, ""},
		{"", math.MinInt, ""},
		{"/a/b", 0, "/a/b"},
		{"/a/b", 1, "a/b"},
		{"/a/b", 2, "b"},
		{"/a/b", 3, "b"},
		{"//a", 0, "//a"},
		{"//a", 1, "a"},
		{"a//b", 1, "b"},
		{"a///b//c", 0, "a///b//c"},
		{"a///b//c", 1, "b//c"},
		{"a///b//c", 2, "c"},
		{"a///b//c", 3, "c"},
		{"a/", 0, "a/"},
		{"a/", 1, ""},
		{"a/", 2, ""},
		{"a//", 1, ""},
		{"a/b/", 1, "b/"},
		{"a/b/", 2, ""},
		{"/", -1, "/"},
		{"/", 0, "/"},
		{"/", 1, ""},
		{"/", 2, ""},
		{"///", 0, "///"},
		{"///", 1, ""},
		{"///", math.MaxInt, ""},
		{"/a/", 1, "a/"},
		{"/a/", 2, ""},
		{"./a", 1, "a"},
		{"../../a", 1, "../a"},
		{"a\\b/c", 1, "c"},
		{"a\\b", 1, "a\\b"},
		{"a b/c\n/d", 1, "c\n/d"},
		{"\xff/\x00/\xfe", 1, "\x00/\xfe"},
		{"a\u2215b/c", 1, "c"},
	} {
		if got := paths.Strip(x.name, x.n); got != x.want {
			t.Errorf("P301: Strip(%q, %d): %q", x.name, x.n, got)
		}
	}
}

func TestPartsAndBase(t *testing.T) {
	for _, x := range []struct {
		name string
		want []string
	}{
		{"", nil},
		{"/", nil},
		{"//", nil},
		{"/////", nil},
		{"a", []string{"a"}},
		{"name.go", []string{"name.go"}},
		{"/a", []string{"a"}},
		{"a/", []string{"a"}},
		{"//a//", []string{"a"}},
		{"a/b", []string{"a", "b"}},
		{"a/b/c", []string{"a", "b", "c"}},
		{"a//b///c", []string{"a", "b", "c"}},
		{"/src//main/x.go/", []string{"src", "main", "x.go"}},
		{"a/a/a", []string{"a", "a", "a"}},
		{"./../.", []string{".", "..", "."}},
		{"a\\b/c", []string{"a\\b", "c"}},
		{" / ", []string{" ", " "}},
		{"a\n/\n", []string{"a\n", "\n"}},
		{"\x00/\xff", []string{"\x00", "\xff"}},
		{"a\u2215b", []string{"a\u2215b"}},
	} {
		if got := paths.Parts(x.name); !slices.Equal(got, x.want) {
			t.Errorf("P301: Parts(%q): %q", x.name, got)
		}
		last := ""
		if len(x.want) > 0 {
			last = x.want[len(x.want)-1]
		}
		if got := paths.Base(x.name); got != last {
			t.Errorf("P301: Base(%q): %q", x.name, got)
		}
	}
}

// No byte but the slash cuts a name.
func TestEachByte(t *testing.T) {
	for b := range 256 {
		one := string([]byte{byte(b)})
		check(t, "P301", one)
		check(t, "P301", "a"+one+"b")
		check(t, "P301", one+"a/b"+one)
	}
}

func TestAllShortNames(t *testing.T) {
	texts("ab/", 8, func(s string) { check(t, "P301", s) })
	texts("/.\\\x00", 5, func(s string) { check(t, "P301", s) })
}

func TestLongNames(t *testing.T) {
	const many = 100000
	slashes := strings.Repeat("/", many)
	for _, x := range []struct {
		name  string
		n     int
		want  string
		parts int
		base  string
	}{
		{slashes, 1, "", 0, ""},
		{slashes + "a", 1, "a", 1, "a"},
		{"a" + slashes, 1, "", 1, "a"},
		{"a" + slashes + "b", 1, "b", 2, "b"},
		{strings.Repeat("a", many) + "/b", 1, "b", 2, "b"},
		{strings.Repeat("a/", many), many - 1, "a/", many, "a"},
		{strings.Repeat("a/", many), many, "", many, "a"},
		{strings.Repeat("a//", many) + "b", math.MaxInt, "b", many + 1, "b"},
	} {
		short := x.name[:min(6, len(x.name))] + ".."
		if got := paths.Strip(x.name, x.n); got != x.want {
			t.Errorf("P301: Strip of the long %q, %d: %d bytes", short, x.n, len(got))
		}
		if got := paths.Parts(x.name); len(got) != x.parts {
			t.Errorf("P301: Parts of the long %q: %d", short, len(got))
		}
		if got := paths.Base(x.name); got != x.base {
			t.Errorf("P301: Base of the long %q: %d bytes", short, len(got))
		}
	}
}

// share tells whether two texts have memory in common.
func share(a, b string) bool {
	if a == "" || b == "" {
		return false
	}
	from := func(s string) uintptr { return uintptr(unsafe.Pointer(unsafe.StringData(s))) }
	return from(a) < from(b)+uintptr(len(b)) && from(b) < from(a)+uintptr(len(a))
}

// answers lists all texts that the three calls answer to a name.
func answers(name string) []string {
	out := []string{paths.Base(name)}
	for n := -1; n <= 4; n++ {
		out = append(out, paths.Strip(name, n))
	}
	return append(out, paths.Parts(name)...)
}

func TestAnswersAreNewMemory(t *testing.T) {
	for _, s := range []string{"a", "name", "a/b", "/a/b/", "one//two/three", "a/a"} {
		first, second := answers(s), answers(s)
		for _, got := range first {
			if share(got, s) {
				t.Errorf("P302: of %q: %q is a piece of what was handed in", s, got)
			}
			for _, other := range second {
				if share(got, other) {
					t.Errorf("P302: of %q: two answers share %q", s, got)
				}
			}
		}
	}
}

func TestListsAreNewMemory(t *testing.T) {
	for _, s := range []string{"a", "a/b", "/a/b/", "1/2/3/4/5/6/7/8/9"} {
		first, second := paths.Parts(s), paths.Parts(s)
		room := first[:cap(first)]
		for i := range room {
			room[i] = "gone"
		}
		if want := slowParts(s); !slices.Equal(second, want) || !slices.Equal(paths.Parts(s), want) {
			t.Errorf("P302: Parts(%q): one answer changes another", s)
		}
	}
}

// An answer that lay in the bytes handed in would follow what befalls them.
func TestWhatIsHandedInIsNotKept(t *testing.T) {
	const was = "a/b//c and more"
	room := []byte(was)
	name := unsafe.String(&room[0], 6)
	parts, base := paths.Parts(name), paths.Base(name)
	whole, strip := paths.Strip(name, 0), paths.Strip(name, 1)
	if string(room) != was {
		t.Errorf("P302: what was handed in has become %q", room)
	}
	copy(room, "xy/xyz//xyz")
	if !slices.Equal(parts, []string{"a", "b", "c"}) || base != "c" {
		t.Errorf("P302: Parts and Base hang on what was handed in: %q, %q", parts, base)
	}
	if whole != "a/b//c" || strip != "b//c" {
		t.Errorf("P302: Strip hangs on what was handed in: %q, %q", whole, strip)
	}
	check(t, "P302", name)
}

func TestAnswersHangOnArgumentsAlone(t *testing.T) {
	all := []string{"", "/", "a", "a/b", "/a//b/", "b/a", "a"}
	for _, a := range all {
		for _, b := range all {
			check(t, "P302", a)
			answers(b)
			check(t, "P302", a)
		}
	}
}

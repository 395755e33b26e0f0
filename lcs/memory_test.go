package lcs_test

import (
	"slices"
	"strings"
	"sync"
	"testing"
	"unsafe"

	"patchwork/api"
	"patchwork/lcs"
)

// samples lists rows of all sorts; each is held against each.
func samples() [][]string {
	return [][]string{
		nil,
		row("a\n"),
		row("z"),
		row(""),
		letters("abcabba"),
		letters("cbabac"),
		letters("xaxbxcx"),
		letters(strings.Repeat("abc", 30)),
		letters(strings.Repeat("cab", 25) + "xyz"),
		append(letters("bca"), "z"),
		row("a\nb", "a", "\n", "a\n", "a\nb"),
		slices.Repeat(row("x\n"), 130),
	}
}

// spare is what stands in the spare room of a row.
var spare = row("spare\n", "", "a\n", "other")

// forAll does something for each pair of samples.
func forAll(do func(a, b []string)) {
	for _, a := range samples() {
		for _, b := range samples() {
			do(a, b)
		}
	}
}

// told holds both calls against the slow ones.
func told(t *testing.T, when string, a, b []string) {
	t.Helper()
	l, long := slow(a, b)
	if got := lcs.Len(a, b); got != long {
		t.Errorf("P1202: %s: Len of %q and %q: %d", when, a, b, got)
	}
	if got := lcs.Diff(a, b); !slices.Equal(got, l) {
		t.Errorf("P1202: %s: Diff of %q and %q: %#v", when, a, b, got)
	}
}

func TestRowsAndTheirSpareRoomAreNotChanged(t *testing.T) {
	forAll(func(a, b []string) {
		first, second := slices.Concat(a, spare), slices.Concat(b, spare)
		told(t, "with spare room", first[:len(a)], second[:len(b)])
		if !slices.Equal(first, slices.Concat(a, spare)) || !slices.Equal(second, slices.Concat(b, spare)) {
			t.Errorf("P1202: %q and %q have become %q and %q", a, b, first, second)
		}
	})
}

// One row may be handed in twice, or be a piece of the other.
func TestRowsThatShareMemory(t *testing.T) {
	for _, was := range samples() {
		l := slices.Clone(was)
		for end := range min(len(l), 20) + 1 {
			for _, x := range [][2][]string{{l, l}, {l, l[:end]}, {l[:end], l}, {l, l[end:]}, {l[end:], l}, {l[:end], l[end:]}, {l[end:], l[:end]}} {
				told(t, "of one list", x[0], x[1])
			}
		}
		if !slices.Equal(l, was) {
			t.Errorf("P1202: %q has become %q", was, l)
		}
	}
}

func TestAnswersAreListsOfTheirOwn(t *testing.T) {
	forAll(func(a, b []string) {
		one, other := slices.Concat(a, spare), slices.Concat(b, spare)
		want, _ := slow(a, b)
		first, second := lcs.Diff(one[:len(a)], other[:len(b)]), lcs.Diff(one[:len(a)], other[:len(b)])
		// All that the answer has, its spare room too, is filled: nothing else may change.
		full := first[:cap(first)]
		for i := range full {
			full[i] = api.Op{Kind: 77, N: 77, Text: "turned"}
		}
		if !slices.Equal(one, slices.Concat(a, spare)) || !slices.Equal(other, slices.Concat(b, spare)) {
			t.Errorf("P1202: the answer shares %q or %q", a, b)
		}
		if !slices.Equal(second, want) {
			t.Errorf("P1202: two answers to %q and %q share a list", a, b)
		}
		for _, l := range [][]string{one, other} {
			for i := range l {
				l[i] = "turned"
			}
		}
		if !slices.Equal(second, want) {
			t.Errorf("P1202: the answer to %q and %q hangs on the rows that were handed in", a, b)
		}
		told(t, "behind that", a, b)
	})
}

// share tells whether two texts have memory in common.
func share(a, b string) bool {
	if a == "" || b == "" {
		return false
	}
	from := func(s string) uintptr { return uintptr(unsafe.Pointer(unsafe.StringData(s))) }
	return from(a) < from(b)+uintptr(len(b)) && from(b) < from(a)+uintptr(len(a))
}

func TestAnswersHaveTextsOfTheirOwn(t *testing.T) {
	forAll(func(a, b []string) {
		first, second := lcs.Diff(a, b), lcs.Diff(a, b)
		from, to := sides(second)
		for _, o := range first {
			for _, other := range slices.Concat(a, b, from, to) {
				if share(o.Text, other) {
					t.Errorf("P1202: Diff of %q and %q: %q is shared", a, b, o.Text)
				}
			}
		}
	})
}

// What was kept of a text, or handed on, would turn with its bytes.
func TestTextsAreNeitherKeptNorChanged(t *testing.T) {
	const was = "k\na\nb\nx\nb\ny\nk\n"
	room := []byte(was)
	piece := func(at int) string { return unsafe.String(&room[at], 2) }
	a := row(piece(0), piece(2), piece(4), piece(6))
	b := row(piece(12), piece(8), piece(10))
	l, long := lcs.Diff(a, b), lcs.Len(a, b)
	if string(room) != was {
		t.Errorf("P1202: the texts have become %q", room)
	}
	copy(room, "l\nb\ny\nx\ny\nz\nl\n")
	if want := drawn("=k-a=b-x+y"); long != 2 || !slices.Equal(l, want) {
		t.Errorf("P1202: the answer hangs on texts that were handed in: %d, %#v", long, l)
	}
	want(t, a, b, 2, drawn("=l-b=y-x+z"))
	// Now one line is another one than it was.
	room[8] = 'q'
	want(t, a, b, 1, drawn("=l-b-y-x+q+z"))
	room[12], room[10] = 'y', 'x'
	want(t, a, b, 2, drawn("-l-b=y+q=x"))
}

func TestRowsAreNotKept(t *testing.T) {
	a, b := letters("abcabba"), letters("cbabac")
	for i, turn := range []func(){
		func() {},
		func() { a[0] = "c\n" },
		func() { b[1] = "a\n" },
		func() { a[6], a[5] = a[5], a[6] },
		func() { b[5] = "x\n" },
		func() { a[3] = "x\n" },
		func() { copy(a, b) },
		func() { copy(b, a[1:]) },
		func() { a = a[:3] },
		func() { a = a[:7] },
	} {
		turn()
		told(t, "turn "+string(rune('0'+i)), a, b)
	}
}

func TestAnswersHangOnArgumentsAlone(t *testing.T) {
	forAll(func(a, b []string) {
		for _, other := range samples() {
			lcs.Diff(other, a)
			lcs.Len(b, other)
			lcs.Diff(b, b)
			told(t, "behind others", a, b)
		}
	})
}

func TestCallsSideBySide(t *testing.T) {
	var group sync.WaitGroup
	for range 8 {
		group.Go(func() {
			for range 5 {
				forAll(func(a, b []string) { told(t, "side by side", a, b) })
			}
		})
	}
	group.Wait()
}

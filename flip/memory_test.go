package flip_test

import (
	"slices"
	"sync"
	"testing"
	"unsafe"

	"patchwork/api"
	"patchwork/flip"
)

// samples lists steps of all kinds, and some that are not right.
func samples() [][]api.Op {
	return [][]api.Op{
		nil,
		{skip(1)},
		{keep("a\n")},
		{del("a\n")},
		{ins("a")},
		{skip(1), skip(2), keep("k\n"), skip(3)},
		{del("a\n"), ins("b\n"), del("c\n"), ins("d\n")},
		{ins("a\n"), skip(1), skip(1), del("b\n"), keep("c\n"), ins("d\n"), del("e\n"), skip(2)},
		{del("a"), ins("b\n"), ins("c")},
		{skip(api.MaxNum - 1), skip(1)},
		{skip(api.MaxNum), skip(1)},
		{skip(0)},
		{del("a\n"), del("")},
		{keep("a"), keep("b")},
		{del("a\n"), {Kind: 9, N: 3, Text: "a\n"}, ins("b\n")},
	}
}

// spare is what stands in the spare room of a list.
var spare = []api.Op{skip(7), del("spare\n"), ins("spare\n"), {Kind: 99, N: -1}}

func TestStepsAndTheirSpareRoomAreNotChanged(t *testing.T) {
	for _, was := range samples() {
		room := slices.Concat(was, spare)
		if got := flip.Ops(room[:len(was)]); !slices.Equal(got, slowBack(was)) {
			t.Errorf("P1002: with spare room: Ops of %#v: %#v", was, got)
		}
		if !slices.Equal(room, slices.Concat(was, spare)) {
			t.Errorf("P1002: %#v has become %#v", was, room)
		}
	}
}

func TestOpsAnswersAListOfItsOwn(t *testing.T) {
	for _, was := range samples() {
		room := slices.Concat(was, spare)
		l := room[:len(was)]
		want := slowBack(was)
		first, second := flip.Ops(l), flip.Ops(l)
		// All that the answer has, its spare room too, is filled: nothing else may change.
		full := first[:cap(first)]
		for i := range full {
			full[i] = api.Op{Kind: 77, N: 77, Text: "turned"}
		}
		if !slices.Equal(room, slices.Concat(was, spare)) {
			t.Errorf("P1002: the answer shares %#v", was)
		}
		if !slices.Equal(second, want) || !slices.Equal(flip.Ops(l), want) {
			t.Errorf("P1002: two answers to %#v share a list", was)
		}
		for i := range room {
			room[i] = api.Op{Kind: 77}
		}
		if !slices.Equal(second, want) {
			t.Errorf("P1002: the answer to %#v hangs on the list that was handed in", was)
		}
	}
}

// share tells whether two texts have memory in common.
func share(a, b string) bool {
	if a == "" || b == "" {
		return false
	}
	from := func(s string) uintptr { return uintptr(unsafe.Pointer(unsafe.StringData(s))) }
	return from(a) < from(b)+uintptr(len(b)) && from(b) < from(a)+uintptr(len(a))
}

func TestOpsAnswersTextsOfItsOwn(t *testing.T) {
	for _, l := range samples() {
		first, second := flip.Ops(l), flip.Ops(l)
		for _, o := range first {
			for _, other := range slices.Concat(l, second) {
				if share(o.Text, other.Text) {
					t.Errorf("P1002: Ops of %#v: %#v is shared", l, o.Text)
				}
			}
		}
	}
}

// What was kept of a text, or handed on, would turn with its bytes.
func TestTextsAreNeitherKeptNorChanged(t *testing.T) {
	const was = "a\nb\nc\n"
	room := []byte(was)
	piece := func(at int) string { return unsafe.String(&room[at], 2) }
	l := steps(del(piece(0)), ins(piece(2)), keep(piece(4)))
	first := flip.Ops(l)
	if string(room) != was {
		t.Errorf("P1002: the texts have become %q", room)
	}
	copy(room, "x\ny\nz\n")
	if want := steps(del("b\n"), ins("a\n"), keep("c\n")); !slices.Equal(first, want) {
		t.Errorf("P1002: Ops hangs on texts that were handed in: %#v", first)
	}
	if got, want := flip.Ops(l), steps(del("y\n"), ins("x\n"), keep("z\n")); !slices.Equal(got, want) {
		t.Errorf("P1002: of texts that have changed: %#v", got)
	}
	// Now the line that goes is open, with one that stays behind it.
	room[1] = 'x'
	if got := flip.Ops(l); len(got) != 0 {
		t.Errorf("P1002: of texts that are not right any more: %#v", got)
	}
}

func TestStepsAreNotKept(t *testing.T) {
	l := steps(skip(1), ins("a\n"), del("b\n"), keep("c\n"), skip(2))
	for i, turn := range []func(){
		func() {},
		func() { l[0].N = 7 },
		func() { l[1].Kind = api.Keep },
		func() { l[2].Text = "x\n" },
		func() { l[3] = skip(5) },
		func() { l[4].N = 0 },
		func() { l[4] = ins("z") },
		func() { l[2].Kind = api.Ins },
		func() { l[0] = keep("z") },
	} {
		turn()
		if got := flip.Ops(l); !slices.Equal(got, slowBack(l)) {
			t.Errorf("P1002: turn %d: Ops of %#v: %#v", i, l, got)
		}
	}
}

func TestAnswersHangOnArgumentsAlone(t *testing.T) {
	for _, l := range samples() {
		for _, other := range samples() {
			flip.Ops(other)
			if got := flip.Ops(l); !slices.Equal(got, slowBack(l)) {
				t.Errorf("P1002: behind %#v: Ops of %#v: %#v", other, l, got)
			}
		}
	}
}

func TestCallsSideBySide(t *testing.T) {
	all := samples()
	var done sync.WaitGroup
	for range 8 {
		done.Go(func() {
			for range 50 {
				for _, l := range all {
					if got := flip.Ops(l); !slices.Equal(got, slowBack(l)) {
						t.Errorf("P1002: side by side: Ops of %#v: %#v", l, got)
					}
				}
			}
		})
	}
	done.Wait()
}

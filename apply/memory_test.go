package apply_test

import (
	"slices"
	"sync"
	"testing"
	"unsafe"

	"patchwork/api"
	"patchwork/apply"
)

// sample is what both calls are asked.
type sample struct {
	l   []api.Op
	old []string
}

// samples lists what can be done, and what can't.
func samples() []sample {
	abc := file("a\n", "b\n", "c\n")
	return []sample{
		{nil, nil},
		{nil, abc},
		{nil, file("a")},
		{steps(ins("x\n")), nil},
		{steps(ins("x")), nil},
		{steps(skip(3)), abc},
		{steps(skip(1)), abc},
		{steps(keep("a\n")), abc},
		{steps(del("a\n")), abc},
		{steps(ins("x\n")), abc},
		{steps(skip(1), del("b\n"), ins("x\n"), ins("y\n"), keep("c\n"), ins("z")), abc},
		{steps(skip(1), skip(1), ins("x\n"), skip(1), ins("y\n")), abc},
		{steps(del("a\n"), del("b\n"), del("c\n")), abc},
		{steps(skip(2), del("c"), ins("c\n")), file("a\n", "b\n", "c")},
		{steps(skip(4)), abc},
		{steps(keep("b\n")), abc},
		{steps(ins("x")), abc},
		{steps(skip(0)), abc},
		{steps(skip(1)), file("a", "b")},
	}
}

// spareSteps and spareLines stand in the spare room of the lists.
var (
	spareSteps = steps(skip(7), del("spare\n"), ins("spare\n"), api.Op{Kind: 99, N: -1})
	spareLines = file("spare\n", "", "more\n", "spare", "5", "6", "7", "8")
)

func TestWhatIsHandedInAndItsSpareRoomAreNotChanged(t *testing.T) {
	for _, x := range samples() {
		room, space := slices.Concat(x.l, spareSteps), slices.Concat(x.old, spareLines)
		l, old := room[:len(x.l)], space[:len(x.old)]
		want, wantOk := slowDo(x.l, x.old)
		if got, ok := apply.Do(l, old); ok != wantOk || !slices.Equal(got, want) || apply.Fits(l, old) != wantOk {
			t.Errorf("P902: with spare room: %#v, %q: %q, %v", l, old, got, ok)
		}
		if !slices.Equal(room, slices.Concat(x.l, spareSteps)) || !slices.Equal(space, slices.Concat(x.old, spareLines)) {
			t.Errorf("P902: %#v, %q have become %#v, %q", x.l, x.old, room, space)
		}
	}
}

func TestDoAnswersAListOfItsOwn(t *testing.T) {
	for _, x := range samples() {
		space := slices.Concat(x.old, spareLines)
		old := space[:len(x.old)]
		want, _ := slowDo(x.l, x.old)
		first, _ := apply.Do(x.l, old)
		second, _ := apply.Do(x.l, old)
		// All that the answer has, its spare room too, is filled: nothing else may change.
		full := first[:cap(first)]
		for i := range full {
			full[i] = "turned"
		}
		if !slices.Equal(space, slices.Concat(x.old, spareLines)) {
			t.Errorf("P902: the answer to %#v shares %q", x.l, x.old)
		}
		third, _ := apply.Do(x.l, old)
		if !slices.Equal(second, want) || !slices.Equal(third, want) {
			t.Errorf("P902: two answers to %#v, %q share a list", x.l, x.old)
		}
		for i := range space {
			space[i] = "turned"
		}
		if !slices.Equal(second, want) {
			t.Errorf("P902: the answer to %#v hangs on the list %q that was handed in", x.l, x.old)
		}
	}
}

// share tells whether two texts have memory in common.
func share(a, b string) bool {
	if a == "" || b == "" {
		return false
	}
	from := func(s string) uintptr { return uintptr(unsafe.Pointer(unsafe.StringData(s))) }
	return from(a) < from(b)+uintptr(len(b)) && from(b) < from(a)+uintptr(len(a))
}

func TestDoAnswersTextsOfItsOwn(t *testing.T) {
	for _, x := range samples() {
		first, _ := apply.Do(x.l, x.old)
		second, _ := apply.Do(x.l, x.old)
		others := slices.Concat(x.old, second)
		for _, o := range x.l {
			others = append(others, o.Text)
		}
		for _, line := range first {
			for _, other := range others {
				if share(line, other) {
					t.Errorf("P902: Do of %#v, %q: %q is shared", x.l, x.old, line)
				}
			}
		}
	}
}

// What was kept of a text, or handed on, would turn with its bytes.
func TestTextsAreNeitherKeptNorChanged(t *testing.T) {
	const was = "a\nb\nc\nd\na\nb\nx\n"
	room := []byte(was)
	piece := func(at int) string { return unsafe.String(&room[at], 2) }
	old := file(piece(0), piece(2), piece(4), piece(6))
	l := steps(del(piece(8)), keep(piece(10)), ins(piece(12)), skip(1))
	first, ok := apply.Do(l, old)
	if !ok || !apply.Fits(l, old) || string(room) != was {
		t.Errorf("P902: %v; the texts have become %q", ok, room)
	}
	// Now b, which is to stay, is another line than the second one.
	copy(room, "a\nB\nC\nD\na\nb\nX\n")
	if want := file("b\n", "x\n", "c\n", "d\n"); !slices.Equal(first, want) {
		t.Errorf("P902: Do hangs on texts that were handed in: %q", first)
	}
	wantNot(t, l, old)
	room[10] = 'B'
	wantDone(t, l, old, file("B\n", "X\n", "C\n", "D\n"))
	// An open line that is not the last.
	room[5] = 'C'
	wantNot(t, l, old)
}

func TestListsAreNotKept(t *testing.T) {
	l := steps(skip(1), del("b\n"), ins("x\n"), keep("c\n"))
	old := file("a\n", "b\n", "c\n", "d\n")
	for i, turn := range []func(){
		func() {},
		func() { l[2].Text = "y\n" },
		func() { old[0] = "A\n" },
		func() { old[3] = "D" },
		func() { l[1].Kind = api.Keep },
		func() { l[0].N = 2 },
		func() { l[0].N = 1 },
		func() { old[2] = "C\n" },
		func() { l[3] = skip(2) },
		func() { l[3] = skip(3) },
		func() { l[3] = ins("z\n") },
		func() { l[2] = skip(2) },
	} {
		turn()
		want, wantOk := slowDo(l, old)
		if got, ok := apply.Do(l, old); ok != wantOk || !slices.Equal(got, want) || apply.Fits(l, old) != wantOk {
			t.Errorf("P902: turn %d: %#v, %q: %q, %v", i, l, old, got, ok)
		}
	}
}

func TestAnswersHangOnArgumentsAlone(t *testing.T) {
	for _, x := range samples() {
		want, wantOk := slowDo(x.l, x.old)
		for _, other := range samples() {
			apply.Do(other.l, other.old)
			apply.Fits(other.l, other.old)
			if got, ok := apply.Do(x.l, x.old); ok != wantOk || !slices.Equal(got, want) || apply.Fits(x.l, x.old) != wantOk {
				t.Errorf("P902: behind %#v, %q: %#v, %q: %q, %v", other.l, other.old, x.l, x.old, got, ok)
			}
		}
	}
}

func TestCallsSideBySide(t *testing.T) {
	all := samples()
	var done sync.WaitGroup
	for range 8 {
		done.Go(func() {
			for range 50 {
				for _, x := range all {
					want, wantOk := slowDo(x.l, x.old)
					if got, ok := apply.Do(x.l, x.old); ok != wantOk || !slices.Equal(got, want) || apply.Fits(x.l, x.old) != wantOk {
						t.Errorf("P902: side by side: %#v, %q: %q, %v", x.l, x.old, got, ok)
					}
				}
			}
		})
	}
	done.Wait()
}

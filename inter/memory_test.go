package inter_test

import (
	"slices"
	"sync"
	"testing"
	"unsafe"

	"patchwork/api"
	"patchwork/inter"
)

// samples lists steps of all kinds, and some that are not right; each is p with each as q.
func samples() [][]api.Op {
	return [][]api.Op{
		nil,
		{skip(1)},
		{keep("a\n")},
		{del("a\n")},
		{ins("a")},
		{ins("b\n"), ins("a\n")},
		{keep("a\n"), ins("b\n"), keep("c\n")},
		{keep("a\n"), del("c\n"), ins("x\n"), keep("d\n"), skip(2)},
		{skip(1), skip(2), keep("k\n"), skip(3)},
		{del("a\n"), ins("b\n"), del("c\n"), ins("d\n")},
		{del("a\n"), del("c\n"), ins("e\n"), ins("d\n"), skip(4)},
		{ins("b\n"), skip(1), skip(1), del("d\n"), keep("k\n"), ins("d\n"), del("e\n"), skip(2)},
		{ins("a\n"), del("a\n"), ins("x\n"), skip(1)},
		{del("a"), ins("b\n"), ins("c")},
		{skip(50), skip(1)},
		{skip(0)},
		{del("a\n"), del("")},
		{keep("a"), keep("b")},
		{del("a\n"), {Kind: 9, N: 3, Text: "a\n"}, ins("b\n"), skip(1)},
	}
}

// spare is what stands in the spare room of a list.
var spare = []api.Op{skip(7), del("spare\n"), ins("spare\n"), {Kind: 99, N: -1}}

// forAll does something for each pair of samples, and what must come of it.
func forAll(do func(p, q, want []api.Op)) {
	for _, p := range samples() {
		for _, q := range samples() {
			want, _ := slowOps(p, q)
			do(p, q, want)
		}
	}
}

// ask asks for the steps alone.
func ask(p, q []api.Op) []api.Op {
	out, _ := inter.Ops(p, q)
	return out
}

func TestSamplesTellOfAllSorts(t *testing.T) {
	together, never := 0, 0
	forAll(func(p, q, _ []api.Op) {
		if hold(t, p, q) {
			together++
		} else {
			never++
		}
	})
	if together < 60 || never < 60 {
		t.Errorf("P1402: %d pairs of samples go together, %d do not: too few to tell anything", together, never)
	}
}

func TestStepsAndTheirSpareRoomAreNotChanged(t *testing.T) {
	forAll(func(p, q, want []api.Op) {
		first, second := slices.Concat(p, spare), slices.Concat(q, spare)
		if got := ask(first[:len(p)], second[:len(q)]); !slices.Equal(got, want) {
			t.Errorf("P1402: with spare room: Ops of %#v and %#v: %#v", p, q, got)
		}
		if !slices.Equal(first, slices.Concat(p, spare)) || !slices.Equal(second, slices.Concat(q, spare)) {
			t.Errorf("P1402: Ops: %#v and %#v have become %#v and %#v", p, q, first, second)
		}
	})
}

// One list may be handed in twice, or be a piece of the other.
func TestListsThatShareMemory(t *testing.T) {
	for _, was := range samples() {
		l := slices.Clone(was)
		for end := range len(l) + 1 {
			for _, x := range [][2][]api.Op{{l, l[:end]}, {l[:end], l}, {l, l[end:]}, {l[end:], l}, {l[:end], l[end:]}, {l[end:], l[:end]}, {l[:end], l[:end]}} {
				want, is := slowOps(x[0], x[1])
				if got, ok := inter.Ops(x[0], x[1]); ok != is || !slices.Equal(got, want) {
					t.Errorf("P1402: Ops of %#v and %#v, of one list: %#v, %v", x[0], x[1], got, ok)
				}
			}
		}
		if !slices.Equal(l, was) {
			t.Errorf("P1402: %#v has become %#v", was, l)
		}
	}
}

func TestAnswersAreListsOfTheirOwn(t *testing.T) {
	forAll(func(p, q, want []api.Op) {
		one, other := slices.Concat(p, spare), slices.Concat(q, spare)
		first, second := ask(one[:len(p)], other[:len(q)]), ask(one[:len(p)], other[:len(q)])
		// All that the answer has, its spare room too, is filled: nothing else may change.
		full := first[:cap(first)]
		for i := range full {
			full[i] = api.Op{Kind: 77, N: 77, Text: "turned"}
		}
		if !slices.Equal(one, slices.Concat(p, spare)) || !slices.Equal(other, slices.Concat(q, spare)) {
			t.Errorf("P1402: the answer of Ops shares %#v or %#v", p, q)
		}
		if !slices.Equal(second, want) || !slices.Equal(ask(p, q), want) {
			t.Errorf("P1402: two answers of Ops to %#v and %#v share a list", p, q)
		}
		for i := range one {
			one[i] = api.Op{Kind: 77}
		}
		for i := range other {
			other[i] = api.Op{Kind: 77}
		}
		if !slices.Equal(second, want) {
			t.Errorf("P1402: the answer of Ops to %#v and %#v hangs on the lists that were handed in", p, q)
		}
	})
}

// share tells whether two texts have memory in common.
func share(a, b string) bool {
	if a == "" || b == "" {
		return false
	}
	from := func(s string) uintptr { return uintptr(unsafe.Pointer(unsafe.StringData(s))) }
	return from(a) < from(b)+uintptr(len(b)) && from(b) < from(a)+uintptr(len(a))
}

func TestAnswersHaveTextsOfTheirOwn(t *testing.T) {
	forAll(func(p, q, _ []api.Op) {
		first, second := ask(p, q), ask(p, q)
		for _, o := range first {
			for _, other := range slices.Concat(p, q, second) {
				if share(o.Text, other.Text) {
					t.Errorf("P1402: Ops of %#v and %#v: %#v is shared", p, q, o.Text)
				}
			}
		}
	})
}

// What was kept of a text, or handed on, would turn with its bytes.
func TestTextsAreNeitherKeptNorChanged(t *testing.T) {
	const was = "a\nb\nc\nc\nb\nd\n"
	room := []byte(was)
	piece := func(at int) string { return unsafe.String(&room[at], 2) }
	p := steps(skip(1), del(piece(0)), ins(piece(2)), keep(piece(4)))
	q := steps(skip(2), keep(piece(6)), ins(piece(8)), ins(piece(10)))
	l := ask(p, q)
	if string(room) != was {
		t.Errorf("P1402: the texts have become %q", room)
	}
	copy(room, "v\nw\nx\nx\nw\ny\n")
	if want := steps(skip(1), del("b\n"), ins("a\n"), keep("c\n"), ins("b\n"), ins("d\n")); !slices.Equal(l, want) {
		t.Errorf("P1402: Ops hangs on texts that were handed in: %#v", l)
	}
	if got, want := ask(p, q), steps(skip(1), del("w\n"), ins("v\n"), keep("x\n"), ins("w\n"), ins("y\n")); !slices.Equal(got, want) {
		t.Errorf("P1402: Ops of texts that have changed: %#v", got)
	}
	// Now the line that stays is another one for p than for q.
	room[6] = 'z'
	if got, ok := inter.Ops(p, q); ok || len(got) != 0 {
		t.Errorf("P1402: of texts that do not go together any more: %#v, %v", got, ok)
	}
}

func TestStepsAreNotKept(t *testing.T) {
	p := steps(skip(1), ins("a\n"), del("b\n"), keep("c\n"), skip(2))
	q := steps(skip(1), del("b\n"), keep("c\n"), ins("d\n"), skip(1))
	for _, turn := range []func(){
		func() {},
		func() { p[0].N = 7 },
		func() { q[0].N = 7 },
		func() { q[1].Kind = api.Keep },
		func() { p[1].Text = "x\n" },
		func() { q[1].Text = "x\n" },
		func() { p[2].Text = "x\n" },
		func() { p[3] = skip(5) },
		func() { q[4].N = 0 },
		func() { q[4] = ins("z") },
		func() { q[4] = del("z") },
		func() { p[4] = keep("z") },
		func() { p[2].Kind = api.Ins },
	} {
		turn()
		hold(t, p, q)
		holdItself(t, p)
		holdItself(t, q)
	}
}

func TestAnswersHangOnArgumentsAlone(t *testing.T) {
	forAll(func(p, q, want []api.Op) {
		ask(q, p)
		ask(p, p)
		ask(q, q)
		if got := ask(p, q); !slices.Equal(got, want) {
			t.Errorf("P1402: behind others: Ops of %#v and %#v: %#v", p, q, got)
		}
	})
}

func TestCallsSideBySide(t *testing.T) {
	p, q := samples()[9], samples()[10]
	var group sync.WaitGroup
	for range 8 {
		group.Go(func() {
			for range 200 {
				hold(t, p, q)
			}
			forAll(func(p, q, want []api.Op) {
				if got := ask(p, q); !slices.Equal(got, want) {
					t.Errorf("P1402: side by side: Ops of %#v and %#v: %#v", p, q, got)
				}
			})
		})
	}
	group.Wait()
}

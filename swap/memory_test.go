package swap_test

import (
	"slices"
	"sync"
	"testing"
	"unsafe"

	"patchwork/api"
	"patchwork/swap"
)

// samples lists steps of all kinds, and some that are not right; each is p with each as q.
func samples() [][]api.Op {
	return [][]api.Op{
		nil,
		{skip(1)},
		{keep("a\n")},
		{del("a\n")},
		{ins("a")},
		{ins("b\n"), ins("a\n")},
		{keep("a\n"), ins("b\n"), keep("c\n")},
		{keep("b\n"), del("a\n"), ins("x\n"), keep("d\n"), skip(2)},
		{skip(1), skip(2), keep("k\n"), skip(3)},
		{del("a\n"), ins("b\n"), del("c\n"), ins("d\n")},
		{skip(4), del("c\n"), ins("e\n"), ins("d\n"), skip(4)},
		{ins("b\n"), skip(1), skip(1), ins("d\n"), keep("k\n"), ins("d\n"), del("e\n"), skip(2)},
		{skip(12), ins("e\n"), del("a\n"), ins("x\n"), skip(1), del("y\n")},
		{skip(20), del("a"), ins("b\n"), ins("c")},
		{skip(50), skip(1)},
		{skip(0)},
		{del("a\n"), del("")},
		{keep("a"), keep("b")},
		{del("a\n"), {Kind: 9, N: 3, Text: "a\n"}, ins("b\n"), skip(1)},
	}
}

// spare is what stands in the spare room of a list.
var spare = []api.Op{skip(7), del("spare\n"), ins("spare\n"), {Kind: 99, N: -1}}

// pair is what Ops answers.
type pair struct{ first, second []api.Op }

// has tells whether both are the same.
func (x pair) has(y pair) bool {
	return slices.Equal(x.first, y.first) && slices.Equal(x.second, y.second)
}

// ask asks for the steps alone.
func ask(p, q []api.Op) pair {
	first, second, _ := swap.Ops(p, q)
	return pair{first, second}
}

// forAll does something for each pair of samples, and what must come of it.
func forAll(do func(p, q []api.Op, want pair)) {
	for _, p := range samples() {
		for _, q := range samples() {
			first, second, _ := slowOps(p, q)
			do(p, q, pair{first, second})
		}
	}
}

func TestSamplesTellOfAllSorts(t *testing.T) {
	met, both := counts{}, 0
	forAll(func(p, q []api.Op, want pair) {
		met[hold(t, p, q)]++
		if len(want.first) > 1 && len(want.second) > 1 {
			both++
		}
	})
	met.wantMost(t, 12, api.OK, api.ErrArg, api.ErrConflict, api.ErrCommute)
	if both < 60 {
		t.Errorf("P1502: of %d pairs of samples much is answered: too few to tell anything", both)
	}
}

func TestStepsAndTheirSpareRoomAreNotChanged(t *testing.T) {
	forAll(func(p, q []api.Op, want pair) {
		one, other := slices.Concat(p, spare), slices.Concat(q, spare)
		if got := ask(one[:len(p)], other[:len(q)]); !got.has(want) {
			t.Errorf("P1502: with spare room: Ops of %#v and %#v: %#v", p, q, got)
		}
		if !slices.Equal(one, slices.Concat(p, spare)) || !slices.Equal(other, slices.Concat(q, spare)) {
			t.Errorf("P1502: Ops: %#v and %#v have become %#v and %#v", p, q, one, other)
		}
	})
}

// One list may be handed in twice, or be a piece of the other.
func TestListsThatShareMemory(t *testing.T) {
	for _, was := range samples() {
		l := slices.Clone(was)
		for end := range len(l) + 1 {
			for _, x := range [][2][]api.Op{{l, l}, {l, l[:end]}, {l[:end], l}, {l, l[end:]}, {l[end:], l}, {l[:end], l[end:]}, {l[end:], l[:end]}, {l[:end], l[:end]}} {
				first, second, e := slowOps(x[0], x[1])
				if one, two, got := swap.Ops(x[0], x[1]); got != e || !slices.Equal(one, first) || !slices.Equal(two, second) {
					t.Errorf("P1502: Ops of %#v and %#v, of one list: %#v, %#v, %v", x[0], x[1], one, two, got)
				}
			}
		}
		if !slices.Equal(l, was) {
			t.Errorf("P1502: %#v has become %#v", was, l)
		}
	}
}

// fill fills all that a list has, its spare room too.
func fill(l []api.Op) {
	full := l[:cap(l)]
	for i := range full {
		full[i] = api.Op{Kind: 77, N: 77, Text: "turned"}
	}
}

func TestAnswersAreListsOfTheirOwn(t *testing.T) {
	forAll(func(p, q []api.Op, want pair) {
		one, other := slices.Concat(p, spare), slices.Concat(q, spare)
		got, again, third := ask(one[:len(p)], other[:len(q)]), ask(one[:len(p)], other[:len(q)]), ask(one[:len(p)], other[:len(q)])
		// Where one list is filled, nothing else may change, the other list of the answer neither.
		fill(got.first)
		fill(again.second)
		if !slices.Equal(got.second, want.second) || !slices.Equal(again.first, want.first) {
			t.Errorf("P1502: the two lists that Ops of %#v and %#v answers share memory", p, q)
		}
		fill(got.second)
		fill(again.first)
		if !slices.Equal(one, slices.Concat(p, spare)) || !slices.Equal(other, slices.Concat(q, spare)) {
			t.Errorf("P1502: the answer of Ops shares %#v or %#v", p, q)
		}
		if !third.has(want) || !ask(p, q).has(want) {
			t.Errorf("P1502: answers of Ops to %#v and %#v share lists", p, q)
		}
		fill(one)
		fill(other)
		if !third.has(want) {
			t.Errorf("P1502: the answer of Ops to %#v and %#v hangs on the lists that were handed in", p, q)
		}
	})
}

// share tells whether two texts have memory in common.
func share(a, b string) bool {
	if a == "" || b == "" {
		return false
	}
	from := func(s string) uintptr { return uintptr(unsafe.Pointer(unsafe.StringData(s))) }
	return from(a) < from(b)+uintptr(len(b)) && from(b) < from(a)+uintptr(len(a))
}

func TestAnswersHaveTextsOfTheirOwn(t *testing.T) {
	forAll(func(p, q []api.Op, _ pair) {
		got, again := ask(p, q), ask(p, q)
		for _, o := range got.first {
			for _, other := range slices.Concat(p, q, got.second, again.first, again.second) {
				if share(o.Text, other.Text) {
					t.Errorf("P1502: Ops of %#v and %#v: of the first %#v is shared", p, q, o.Text)
				}
			}
		}
		for _, o := range got.second {
			for _, other := range slices.Concat(p, q, again.second) {
				if share(o.Text, other.Text) {
					t.Errorf("P1502: Ops of %#v and %#v: of the second %#v is shared", p, q, o.Text)
				}
			}
		}
	})
}

// What was kept of a text, or handed on, would turn with its bytes.
func TestTextsAreNeitherKeptNorChanged(t *testing.T) {
	const was = "a\nb\nc\nc\nb\nd\n"
	room := []byte(was)
	piece := func(at int) string { return unsafe.String(&room[at], 2) }
	p := steps(skip(1), del(piece(0)), ins(piece(2)), keep(piece(4)))
	q := steps(skip(2), keep(piece(6)), del(piece(8)), ins(piece(10)))
	got := ask(p, q)
	if string(room) != was {
		t.Errorf("P1502: the texts have become %q", room)
	}
	copy(room, "v\nw\nx\nx\nw\ny\n")
	if want := (pair{drawn("1=a=c-b+d"), drawn("1-a+b=c=d")}); !got.has(want) {
		t.Errorf("P1502: Ops hangs on texts that were handed in: %#v", got)
	}
	if got, want := ask(p, q), (pair{drawn("1=v=x-w+y"), drawn("1-v+w=x=y")}); !got.has(want) {
		t.Errorf("P1502: Ops of texts that have changed: %#v", got)
	}
	// Now the line that stays is another one for p than for q.
	room[6] = 'z'
	wantErr(t, api.ErrConflict, p, q)
}

func TestStepsAreNotKept(t *testing.T) {
	p := steps(skip(1), ins("a\n"), del("b\n"), keep("c\n"), skip(2))
	q := steps(skip(1), keep("a\n"), keep("c\n"), ins("d\n"), skip(1))
	for _, turn := range []func(){
		func() {},
		func() { p[0].N = 7 },
		func() { q[0].N = 7 },
		func() { q[2].Kind = api.Del },
		func() { q[1].Kind = api.Del },
		func() { p[1].Text = "x\n" },
		func() { q[1].Text = "x\n" },
		func() { p[2].Text = "x\n" },
		func() { p[3] = skip(5) },
		func() { q[4].N = 0 },
		func() { q[4] = ins("z") },
		func() { q[4] = del("z") },
		func() { p[4] = keep("z") },
		func() { p[2].Kind = api.Ins },
	} {
		turn()
		hold(t, p, q)
		hold(t, q, p)
	}
}

func TestAnswersHangOnArgumentsAlone(t *testing.T) {
	forAll(func(p, q []api.Op, want pair) {
		ask(q, p)
		ask(p, p)
		ask(q, q)
		if got := ask(p, q); !got.has(want) {
			t.Errorf("P1502: behind others: Ops of %#v and %#v: %#v", p, q, got)
		}
	})
}

func TestCallsSideBySide(t *testing.T) {
	p, q := samples()[11], samples()[12]
	var group sync.WaitGroup
	for range 8 {
		group.Go(func() {
			for range 200 {
				hold(t, p, q)
			}
			forAll(func(p, q []api.Op, want pair) {
				if got := ask(p, q); !got.has(want) {
					t.Errorf("P1502: side by side: Ops of %#v and %#v: %#v", p, q, got)
				}
			})
		})
	}
	group.Wait()
}

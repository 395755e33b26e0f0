package compose_test

import (
	"slices"
	"sync"
	"testing"
	"unsafe"

	"patchwork/api"
	"patchwork/compose"
)

// samples lists steps of all kinds, and some that are not right; each is p with each as q.
func samples() [][]api.Op {
	return [][]api.Op{
		nil,
		{skip(1)},
		{keep("a\n")},
		{del("a\n")},
		{ins("a")},
		{keep("a\n"), ins("b\n"), keep("c\n")},
		{keep("a\n"), del("b\n"), ins("x\n"), keep("c\n"), skip(2)},
		{skip(1), skip(2), keep("k\n"), skip(3)},
		{del("a\n"), ins("b\n"), del("c\n"), ins("d\n")},
		{del("b\n"), del("d\n"), ins("e\n"), skip(4)},
		{ins("a\n"), skip(1), skip(1), del("b\n"), keep("c\n"), ins("d\n"), del("e\n"), skip(2)},
		{del("a"), ins("b\n"), ins("c")},
		{skip(50), skip(1)},
		{skip(0)},
		{del("a\n"), del("")},
		{keep("a"), keep("b")},
		{del("a\n"), {Kind: 9, N: 3, Text: "a\n"}, ins("b\n"), skip(1)},
	}
}

// spare is what stands in the spare room of a list.
var spare = []api.Op{skip(7), del("spare\n"), ins("spare\n"), {Kind: 99, N: -1}}

// calls are Then and Rest as they are asked of two lists.
var calls = []struct {
	name string
	ask  func(p, q []api.Op) []api.Op
	want func(p, q []api.Op) []api.Op
}{
	{
		"Then",
		func(p, q []api.Op) []api.Op { out, _ := compose.Then(p, q); return out },
		func(p, q []api.Op) []api.Op { out, _ := slowThen(p, q); return out },
	},
	{"Rest", func(p, _ []api.Op) []api.Op { return compose.Rest(p) }, slowRest},
}

// slowRest cuts Skip by Skip.
func slowRest(l, _ []api.Op) []api.Op {
	if len(l) == 0 || l[len(l)-1].Kind != api.Skip {
		return slices.Clone(l)
	}
	return slowRest(l[:len(l)-1], nil)
}

// forAll does something for each call and each pair of samples.
func forAll(do func(name string, ask, want func(p, q []api.Op) []api.Op, p, q []api.Op)) {
	for _, call := range calls {
		for _, p := range samples() {
			for _, q := range samples() {
				do(call.name, call.ask, call.want, p, q)
			}
		}
	}
}

func TestSamplesTellOfAllSorts(t *testing.T) {
	together := 0
	for _, p := range samples() {
		for _, q := range samples() {
			if hold(t, p, q) {
				together++
			}
		}
	}
	if together < 40 {
		t.Errorf("P1103: %d pairs of samples go together: too few to tell anything", together)
	}
}

func TestStepsAndTheirSpareRoomAreNotChanged(t *testing.T) {
	forAll(func(name string, ask, want func(p, q []api.Op) []api.Op, p, q []api.Op) {
		first, second := slices.Concat(p, spare), slices.Concat(q, spare)
		if got := ask(first[:len(p)], second[:len(q)]); !slices.Equal(got, want(p, q)) {
			t.Errorf("P1103: with spare room: %s of %#v and %#v: %#v", name, p, q, got)
		}
		if !slices.Equal(first, slices.Concat(p, spare)) || !slices.Equal(second, slices.Concat(q, spare)) {
			t.Errorf("P1103: %s: %#v and %#v have become %#v and %#v", name, p, q, first, second)
		}
	})
}

// One list may be handed in twice, or be a piece of the other.
func TestListsThatShareMemory(t *testing.T) {
	for _, was := range samples() {
		l := slices.Clone(was)
		for end := range len(l) + 1 {
			for _, x := range [][2][]api.Op{{l, l[:end]}, {l[:end], l}, {l, l[end:]}, {l[end:], l}, {l[:end], l[end:]}, {l[end:], l[:end]}} {
				for _, call := range calls {
					if got := call.ask(x[0], x[1]); !slices.Equal(got, call.want(x[0], x[1])) {
						t.Errorf("P1103: %s of %#v and %#v, of one list: %#v", call.name, x[0], x[1], got)
					}
				}
			}
		}
		if !slices.Equal(l, was) {
			t.Errorf("P1103: %#v has become %#v", was, l)
		}
	}
}

func TestAnswersAreListsOfTheirOwn(t *testing.T) {
	forAll(func(name string, ask, want func(p, q []api.Op) []api.Op, p, q []api.Op) {
		one, other := slices.Concat(p, spare), slices.Concat(q, spare)
		first, second := ask(one[:len(p)], other[:len(q)]), ask(one[:len(p)], other[:len(q)])
		// All that the answer has, its spare room too, is filled: nothing else may change.
		full := first[:cap(first)]
		for i := range full {
			full[i] = api.Op{Kind: 77, N: 77, Text: "turned"}
		}
		if !slices.Equal(one, slices.Concat(p, spare)) || !slices.Equal(other, slices.Concat(q, spare)) {
			t.Errorf("P1103: the answer of %s shares %#v or %#v", name, p, q)
		}
		if !slices.Equal(second, want(p, q)) || !slices.Equal(ask(p, q), want(p, q)) {
			t.Errorf("P1103: two answers of %s to %#v and %#v share a list", name, p, q)
		}
		for i := range one {
			one[i] = api.Op{Kind: 77}
		}
		for i := range other {
			other[i] = api.Op{Kind: 77}
		}
		if !slices.Equal(second, want(p, q)) {
			t.Errorf("P1103: the answer of %s to %#v and %#v hangs on the lists that were handed in", name, p, q)
		}
	})
}

// share tells whether two texts have memory in common.
func share(a, b string) bool {
	if a == "" || b == "" {
		return false
	}
	from := func(s string) uintptr { return uintptr(unsafe.Pointer(unsafe.StringData(s))) }
	return from(a) < from(b)+uintptr(len(b)) && from(b) < from(a)+uintptr(len(a))
}

func TestAnswersHaveTextsOfTheirOwn(t *testing.T) {
	forAll(func(name string, ask, _ func(p, q []api.Op) []api.Op, p, q []api.Op) {
		first, second := ask(p, q), ask(p, q)
		for _, o := range first {
			for _, other := range slices.Concat(p, q, second) {
				if share(o.Text, other.Text) {
					t.Errorf("P1103: %s of %#v and %#v: %#v is shared", name, p, q, o.Text)
				}
			}
		}
	})
}

// What was kept of a text, or handed on, would turn with its bytes.
func TestTextsAreNeitherKeptNorChanged(t *testing.T) {
	const was = "a\nb\nc\nb\nd\n"
	room := []byte(was)
	piece := func(at int) string { return unsafe.String(&room[at], 2) }
	p := steps(del(piece(0)), ins(piece(2)), keep(piece(4)))
	q := steps(keep(piece(6)), ins(piece(8)))
	both, _ := compose.Then(p, q)
	rest := compose.Rest(p)
	if string(room) != was {
		t.Errorf("P1103: the texts have become %q", room)
	}
	copy(room, "v\nw\nx\nw\ny\n")
	if want := steps(del("a\n"), ins("b\n"), ins("d\n"), keep("c\n")); !slices.Equal(both, want) {
		t.Errorf("P1103: Then hangs on texts that were handed in: %#v", both)
	}
	if want := steps(del("a\n"), ins("b\n"), keep("c\n")); !slices.Equal(rest, want) {
		t.Errorf("P1103: Rest hangs on texts that were handed in: %#v", rest)
	}
	if got, ok := compose.Then(p, q); !ok || !slices.Equal(got, steps(del("v\n"), ins("w\n"), ins("y\n"), keep("x\n"))) {
		t.Errorf("P1103: Then of texts that have changed: %#v, %v", got, ok)
	}
	if got, want := compose.Rest(p), steps(del("v\n"), ins("w\n"), keep("x\n")); !slices.Equal(got, want) {
		t.Errorf("P1103: Rest of texts that have changed: %#v", got)
	}
	// Now the line that comes is another one than the one that stays.
	room[6] = 'z'
	if got, ok := compose.Then(p, q); ok || len(got) != 0 {
		t.Errorf("P1103: of texts that do not go together any more: %#v, %v", got, ok)
	}
}

func TestStepsAreNotKept(t *testing.T) {
	p := steps(skip(1), ins("a\n"), del("b\n"), keep("c\n"), skip(2))
	q := steps(skip(1), del("a\n"), keep("c\n"), ins("d\n"), skip(1))
	for i, turn := range []func(){
		func() {},
		func() { p[0].N = 7 },
		func() { q[0].N = 7 },
		func() { q[1].Kind = api.Keep },
		func() { p[1].Text = "x\n" },
		func() { q[1].Text = "x\n" },
		func() { p[3] = skip(5) },
		func() { q[4].N = 0 },
		func() { q[4] = ins("z") },
		func() { q[4] = del("z") },
		func() { p[4] = keep("z") },
		func() { p[2].Kind = api.Ins },
	} {
		turn()
		hold(t, p, q)
		if got := compose.Rest(p); !slices.Equal(got, slowRest(p, nil)) {
			t.Errorf("P1103: turn %d: Rest of %#v: %#v", i, p, got)
		}
	}
}

func TestAnswersHangOnArgumentsAlone(t *testing.T) {
	forAll(func(name string, ask, want func(p, q []api.Op) []api.Op, p, q []api.Op) {
		for _, call := range calls {
			call.ask(q, p)
			call.ask(p, p)
			if got := ask(p, q); !slices.Equal(got, want(p, q)) {
				t.Errorf("P1103: behind %s of others: %s of %#v and %#v: %#v", call.name, name, p, q, got)
			}
		}
	})
}

func TestCallsSideBySide(t *testing.T) {
	p, q := samples()[5], samples()[6]
	var group sync.WaitGroup
	for range 8 {
		group.Go(func() {
			for range 200 {
				hold(t, p, q)
			}
			forAll(func(name string, ask, want func(p, q []api.Op) []api.Op, p, q []api.Op) {
				if got := ask(p, q); !slices.Equal(got, want(p, q)) {
					t.Errorf("P1103: side by side: %s of %#v and %#v: %#v", name, p, q, got)
				}
			})
		})
	}
	group.Wait()
}

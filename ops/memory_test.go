package ops_test

import (
	"slices"
	"sync"
	"testing"
	"unsafe"

	"patchwork/api"
	"patchwork/ops"
)

// samples lists steps of all kinds, and some that are not Right.
func samples() [][]api.Op {
	return [][]api.Op{
		nil,
		{skip(1)},
		{keep("a\n")},
		{del("a\n")},
		{ins("a")},
		{skip(1), skip(2), keep("k\n"), skip(3)},
		{ins("a\n"), del("b\n"), ins("c\n"), del("d\n")},
		{ins("a\n"), skip(1), skip(1), del("b\n"), keep("c\n"), ins("d\n"), del("e\n"), skip(2)},
		{del("a"), ins("b\n"), ins("c")},
		{skip(api.MaxNum - 1), skip(1)},
		{skip(api.MaxNum), skip(1)},
		{skip(0)},
		{keep("a"), keep("b")},
		{{Kind: 9, N: 3, Text: "a\n"}, keep("b\n")},
	}
}

// answers is what all calls answer.
type answers struct {
	right               bool
	olds, news, changes int
	same                bool
	norm                []api.Op
}

func ask(l []api.Op) answers {
	return answers{ops.Right(l), ops.Olds(l), ops.News(l), ops.Changes(l), ops.Same(l, l), ops.Norm(l)}
}

// wanted answers what must be answered.
func wanted(l []api.Op) answers {
	return answers{slowRight(l), slowLines(slowOld(l)), slowLines(slowNew(l)), len(slowSide(l, api.Del, api.Ins)), true, slowNorm(l)}
}

// equal tells whether all is answered the same.
func (a answers) equal(b answers) bool {
	norms := slices.Equal(a.norm, b.norm)
	a.norm, b.norm = nil, nil
	return norms && a.right == b.right && a.olds == b.olds && a.news == b.news && a.changes == b.changes && a.same == b.same
}

// spare is what stands in the spare room of a list.
var spare = []api.Op{skip(7), del("spare\n"), ins("spare\n"), {Kind: 99, N: -1}}

func TestStepsAndTheirSpareRoomAreNotChanged(t *testing.T) {
	for _, was := range samples() {
		room := slices.Concat(was, spare)
		other := slices.Concat(was, spare)
		l := room[:len(was)]
		if got := ask(l); !got.equal(wanted(was)) {
			t.Errorf("P803: with spare room: %#v: %v", was, got)
		}
		if !ops.Same(l, other[:len(was)]) {
			t.Errorf("P803: with spare room: %#v is not the same as itself", was)
		}
		if whole := slices.Concat(was, spare); !slices.Equal(room, whole) || !slices.Equal(other, whole) {
			t.Errorf("P803: %#v has become %#v, %#v", whole, room, other)
		}
	}
}

func TestNormAnswersAListOfItsOwn(t *testing.T) {
	for _, was := range samples() {
		room := slices.Concat(was, spare)
		l := room[:len(was)]
		first, second := ops.Norm(l), ops.Norm(l)
		// All that the answer has, its spare room too, is filled: nothing else may change.
		full := first[:cap(first)]
		for i := range full {
			full[i] = api.Op{Kind: 77, N: 77, Text: "turned"}
		}
		if !slices.Equal(room, slices.Concat(was, spare)) {
			t.Errorf("P803: the answer shares %#v", was)
		}
		if !slices.Equal(second, slowNorm(was)) || !slices.Equal(ops.Norm(l), slowNorm(was)) {
			t.Errorf("P803: two answers to %#v share a list", was)
		}
		for i := range room {
			room[i] = api.Op{Kind: 77}
		}
		if !slices.Equal(second, slowNorm(was)) {
			t.Errorf("P803: the answer to %#v hangs on the list that was handed in", was)
		}
	}
}

// share tells whether two texts have memory in common.
func share(a, b string) bool {
	if a == "" || b == "" {
		return false
	}
	from := func(s string) uintptr { return uintptr(unsafe.Pointer(unsafe.StringData(s))) }
	return from(a) < from(b)+uintptr(len(b)) && from(b) < from(a)+uintptr(len(a))
}

func TestNormAnswersTextsOfItsOwn(t *testing.T) {
	for _, l := range samples() {
		first, second := ops.Norm(l), ops.Norm(l)
		for _, o := range first {
			for _, other := range slices.Concat(l, second) {
				if share(o.Text, other.Text) {
					t.Errorf("P803: Norm of %#v: %#v is shared", l, o.Text)
				}
			}
		}
	}
}

// What was kept of a text, or handed on, would turn with its bytes.
func TestTextsAreNeitherKeptNorChanged(t *testing.T) {
	room := []byte("a\nb\nc\n")
	piece := func(at int) string { return unsafe.String(&room[at], 2) }
	l := steps(ins(piece(0)), del(piece(2)), keep(piece(4)))
	first := ops.Norm(l)
	if string(room) != "a\nb\nc\n" {
		t.Errorf("P803: the texts have become %q", room)
	}
	copy(room, "x\ny\nz\n")
	if want := steps(del("b\n"), ins("a\n"), keep("c\n")); !slices.Equal(first, want) {
		t.Errorf("P803: Norm hangs on texts that were handed in: %#v", first)
	}
	if got, want := ops.Norm(l), steps(del("y\n"), ins("x\n"), keep("z\n")); !slices.Equal(got, want) {
		t.Errorf("P803: of texts that have changed: %#v", got)
	}
	if !ops.Same(l, steps(ins("x\n"), del("y\n"), keep("z\n"))) || ops.Same(l, steps(ins("a\n"), del("b\n"), keep("c\n"))) {
		t.Error("P803: Same knows texts that have changed")
	}
	room[5] = 'z'
	if !ops.Right(l) {
		t.Error("P803: an open line at the end: false")
	}
	room[1] = 'z'
	if ops.Right(l) || len(ops.Norm(l)) != 0 {
		t.Error("P803: Right knows texts that have changed")
	}
}

func TestStepsAreNotKept(t *testing.T) {
	l := steps(skip(1), ins("a\n"), del("b\n"), keep("c\n"), skip(2))
	for i, turn := range []func(){
		func() {},
		func() { l[0].N = 7 },
		func() { l[1].Kind = api.Keep },
		func() { l[2].Text = "x\n" },
		func() { l[3] = skip(5) },
		func() { l[4].N = 0 },
		func() { l[4] = ins("z") },
		func() { l[0] = keep("z") },
	} {
		turn()
		if got := ask(l); !got.equal(wanted(l)) {
			t.Errorf("P803: turn %d: %#v: %v", i, l, got)
		}
	}
}

func TestAnswersHangOnArgumentsAlone(t *testing.T) {
	for i, l := range samples() {
		for k, other := range samples() {
			ask(other)
			if got := ask(l); !got.equal(wanted(l)) {
				t.Errorf("P803: behind %#v: %#v: %v", other, l, got)
			}
			if got := ops.Same(l, other); got != (i == k) {
				t.Errorf("P803: Same of %#v, %#v: %v", l, other, got)
			}
		}
	}
}

func TestCallsSideBySide(t *testing.T) {
	all := samples()
	var done sync.WaitGroup
	for range 8 {
		done.Go(func() {
			for range 50 {
				for _, l := range all {
					if got := ask(l); !got.equal(wanted(l)) {
						t.Errorf("P803: side by side: %#v: %v", l, got)
					}
				}
			}
		})
	}
	done.Wait()
}

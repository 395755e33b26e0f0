package pick_test

import (
	"slices"
	"sync"
	"testing"
	"unsafe"

	"patchwork/api"
	"patchwork/ops"
	"patchwork/pick"
)

// samples lists steps of all kinds, and some that are not right.
func samples() [][]api.Op {
	return [][]api.Op{
		nil,
		{skip(1)},
		{keep("a\n")},
		{del("a\n")},
		{ins("a")},
		{ins("b\n"), ins("a\n")},
		{keep("a\n"), ins("b\n"), keep("c\n")},
		{keep("b\n"), del("a\n"), ins("x\n"), keep("d\n"), skip(2)},
		{skip(1), skip(2), keep("k\n"), skip(3)},
		{del("a\n"), ins("b\n"), del("c\n"), ins("d\n")},
		{skip(4), del("c\n"), ins("e\n"), ins("d\n"), skip(4)},
		{ins("b\n"), skip(1), skip(1), ins("d\n"), keep("k\n"), ins("d\n"), del("e\n"), skip(2)},
		{skip(12), ins("e\n"), del("a\n"), ins("x\n"), skip(1), del("y\n")},
		{skip(20), del("a"), ins("b\n"), ins("c")},
		{skip(50), skip(1)},
		{skip(0)},
		{del("a\n"), del("")},
		{keep("a"), keep("b")},
		{del("a\n"), {Kind: 9, N: 3, Text: "a\n"}, ins("b\n"), skip(1)},
	}
}

// spare is what stands in the spare room of a list, sparePicks in that of picks.
var (
	spare      = []api.Op{skip(7), del("spare\n"), ins("spare\n"), {Kind: 99, N: -1}}
	sparePicks = []bool{true, true, false, true}
)

// answer is what both calls answer.
type answer struct {
	first, second []api.Op
	rows          []api.Range
}

// has tells whether both are the same.
func (x answer) has(y answer) bool {
	return slices.Equal(x.first, y.first) && slices.Equal(x.second, y.second) && slices.Equal(x.rows, y.rows)
}

// ask asks both calls.
func ask(l []api.Op, picks []bool) answer {
	first, second := pick.Ops(l, picks)
	return answer{first, second, pick.Rows(l)}
}

// wanted reckons what must come.
func wanted(l []api.Op, picks []bool) answer {
	var met sorts
	first, second := met.slowOps(l, picks)
	return answer{first, second, slowRows(l)}
}

// forAll does something for each of the samples and each that can be picked, and what must come of it.
func forAll(do func(l []api.Op, picks []bool, want answer)) {
	for _, l := range samples() {
		for _, picks := range allPicks(ops.Changes(l)) {
			do(l, picks, wanted(l, picks))
		}
	}
}

func TestSamplesTellOfAllSorts(t *testing.T) {
	var met sorts
	long := 0
	forAll(func(l []api.Op, picks []bool, want answer) {
		met.hold(t, l, picks)
		if len(want.first) > 1 && len(want.second) > 1 && len(want.rows) > 1 {
			long++
		}
	})
	met.wantMost(t, 4, 4, 20)
	if long < 20 {
		t.Errorf("P1602: of %d samples much is answered: too few to tell anything", long)
	}
}

func TestWhatIsHandedInAndItsSpareRoomAreNotChanged(t *testing.T) {
	forAll(func(l []api.Op, picks []bool, want answer) {
		all, marks := slices.Concat(l, spare), slices.Concat(picks, sparePicks)
		if got := ask(all[:len(l)], marks[:len(picks)]); !got.has(want) {
			t.Errorf("P1602: with spare room: of %#v and %v: %#v", l, picks, got)
		}
		if !slices.Equal(all, slices.Concat(l, spare)) || !slices.Equal(marks, slices.Concat(picks, sparePicks)) {
			t.Errorf("P1602: %#v and %v have become %#v and %v", l, picks, all, marks)
		}
	})
}

// Pieces of a list, and of picks, are what they are alone.
func TestPieces(t *testing.T) {
	for _, was := range samples() {
		l, picks := slices.Clone(was), marked("x.xx..x")
		for end := range len(l) + 1 {
			for from := range end + 1 {
				for cut := range len(picks) {
					if got, want := ask(l[from:end], picks[cut:]), wanted(was[from:end], marked("x.xx..x")[cut:]); !got.has(want) {
						t.Errorf("P1602: of %#v and %v, pieces of others: %#v; wanted %#v", was[from:end], picks[cut:], got, want)
					}
				}
			}
		}
		if !slices.Equal(l, was) || !slices.Equal(picks, marked("x.xx..x")) {
			t.Errorf("P1602: %#v has become %#v, with %v", was, l, picks)
		}
	}
}

// fill fills all that a list has, its spare room too.
func fill[T any](l []T, with T) {
	full := l[:cap(l)]
	for i := range full {
		full[i] = with
	}
}

// turned is what a list is filled with.
var turned = api.Op{Kind: 77, N: 77, Text: "turned"}

func TestAnswersAreListsOfTheirOwn(t *testing.T) {
	forAll(func(l []api.Op, picks []bool, want answer) {
		all, marks := slices.Concat(l, spare), slices.Concat(picks, sparePicks)
		asked := func() answer { return ask(all[:len(l)], marks[:len(picks)]) }
		got, again, third := asked(), asked(), asked()
		// Where one list is filled, nothing else may change, the other list of the answer neither.
		fill(got.first, turned)
		fill(again.second, turned)
		if !slices.Equal(got.second, want.second) || !slices.Equal(again.first, want.first) {
			t.Errorf("P1602: the two lists that Ops of %#v and %v answers share memory", l, picks)
		}
		fill(got.second, turned)
		fill(again.first, turned)
		fill(got.rows, api.Range{From: 77, To: 77})
		if !slices.Equal(all, slices.Concat(l, spare)) || !slices.Equal(marks, slices.Concat(picks, sparePicks)) {
			t.Errorf("P1602: the answer of Ops shares %#v or %v", l, picks)
		}
		if !slices.Equal(again.rows, want.rows) || !third.has(want) || !ask(l, picks).has(want) {
			t.Errorf("P1602: answers to %#v and %v share lists", l, picks)
		}
		fill(all, turned)
		fill(marks, true)
		if !third.has(want) {
			t.Errorf("P1602: the answer to %#v and %v hangs on the lists that were handed in", l, picks)
		}
	})
}

// share tells whether two texts have memory in common.
func share(a, b string) bool {
	if a == "" || b == "" {
		return false
	}
	from := func(s string) uintptr { return uintptr(unsafe.Pointer(unsafe.StringData(s))) }
	return from(a) < from(b)+uintptr(len(b)) && from(b) < from(a)+uintptr(len(a))
}

func TestAnswersHaveTextsOfTheirOwn(t *testing.T) {
	forAll(func(l []api.Op, picks []bool, _ answer) {
		got, again := ask(l, picks), ask(l, picks)
		for _, o := range got.first {
			for _, other := range slices.Concat(l, got.second, again.first, again.second) {
				if share(o.Text, other.Text) {
					t.Errorf("P1602: Ops of %#v and %v: of the first %#v is shared", l, picks, o.Text)
				}
			}
		}
		for _, o := range got.second {
			for _, other := range slices.Concat(l, again.second) {
				if share(o.Text, other.Text) {
					t.Errorf("P1602: Ops of %#v and %v: of the second %#v is shared", l, picks, o.Text)
				}
			}
		}
	})
}

// What was kept of a text, or handed on, would turn with its bytes.
func TestTextsAreNeitherKeptNorChanged(t *testing.T) {
	const was = "a\nb\nc\nd\ne\n"
	room := []byte(was)
	piece := func(at int) string { return unsafe.String(&room[at], 2) }
	l := steps(skip(1), ins(piece(2)), del(piece(0)), keep(piece(4)), del(piece(6)), ins(piece(8)))
	picks := marked("x..x")
	got := ask(l, picks)
	if string(room) != was {
		t.Errorf("P1602: the texts have become %q", room)
	}
	copy(room, "v\nw\nx\ny\nz\n")
	if want := (answer{drawn("1-a=c=d+e"), drawn("1+b=c-d=e"), numbered(0, 1, 2, 3)}); !got.has(want) {
		t.Errorf("P1602: Ops hangs on texts that were handed in: %#v", got)
	}
	if got, want := ask(l, picks), (answer{drawn("1-v=x=y+z"), drawn("1+w=x-y=z"), numbered(0, 1, 2, 3)}); !got.has(want) {
		t.Errorf("P1602: Ops of texts that have changed: %#v", got)
	}
	// Now a line has two ends.
	room[4] = '\n'
	wantNothing(t, l, "x..x")
}

func TestWhatIsHandedInIsNotKept(t *testing.T) {
	l := steps(skip(1), ins("a\n"), del("b\n"), keep("c\n"), skip(2), del("d\n"), ins("e\n"))
	picks := marked("x..x")
	var met sorts
	for _, turn := range []func(){
		func() {},
		func() { picks[1] = true },
		func() { picks[0] = false },
		func() { picks = picks[:2] },
		func() { picks = picks[:4] },
		func() { l[0].N = 7 },
		func() { l[1].Kind = api.Del },
		func() { l[2].Text = "x\n" },
		func() { l[3] = skip(5) },
		func() { l[3] = ins("y\n") },
		func() { l[6].Text = "e" },
		func() { l[5].Text = "d" },
		func() { picks[3], picks[2] = false, true },
		func() { l[4].N = 0 },
		func() { l = l[:4] },
	} {
		turn()
		met.hold(t, l, picks)
		holdRows(t, l)
	}
	if met.some < 8 {
		t.Errorf("P1602: of %+v too few tell anything", met)
	}
}

func TestAnswersHangOnArgumentsAlone(t *testing.T) {
	forAll(func(l []api.Op, picks []bool, want answer) {
		for _, other := range samples() {
			ask(other, picks)
		}
		ask(l, nil)
		if got := ask(l, picks); !got.has(want) {
			t.Errorf("P1602: behind others: of %#v and %v: %#v", l, picks, got)
		}
	})
}

func TestCallsSideBySide(t *testing.T) {
	l, picks := samples()[11], marked("x.x.")
	var group sync.WaitGroup
	for range 8 {
		group.Go(func() {
			var met sorts
			for range 200 {
				met.hold(t, l, picks)
				holdRows(t, l)
			}
			forAll(func(l []api.Op, picks []bool, want answer) {
				if got := ask(l, picks); !got.has(want) {
					t.Errorf("P1602: side by side: of %#v and %v: %#v", l, picks, got)
				}
			})
		})
	}
	group.Wait()
}

package tidy_test

import (
	"slices"
	"sync"
	"testing"
	"unsafe"

	"patchwork/api"
	"patchwork/tidy"
)

// samples lists steps of all kinds, and some that are not right.
func samples() [][]api.Op {
	return [][]api.Op{
		nil,
		{skip(1)},
		{keep("a\n")},
		{del("a\n")},
		{ins("a")},
		{keep("a\n"), keep("b\n"), skip(1), keep("c")},
		{del("a\n"), ins("a\n")},
		{skip(1), skip(2), keep("k\n"), skip(3)},
		{del("a\n"), ins("b\n"), del("c\n"), ins("d\n")},
		{del("a\n"), del("b\n"), skip(1), ins("b\n"), ins("x\n")},
		{del("a\n"), del("b\n"), ins("b\n"), ins("x\n"), skip(2), ins("d\n"), del("d\n")},
		{ins("a\n"), skip(1), skip(1), del("b\n"), keep("c\n"), ins("d\n"), del("e\n"), skip(2)},
		{keep("k\n"), del("a\n"), del("b\n"), keep("l\n"), ins("a\n"), ins("l\n"), ins("z"), del("z")},
		{del("a"), ins("b\n"), ins("c")},
		{skip(api.MaxNum - 1), skip(1)},
		{skip(api.MaxNum), skip(1)},
		{skip(0)},
		{del("a\n"), ins("a\n"), del("")},
		{keep("a"), keep("b")},
		{del("a\n"), {Kind: 9, N: 3, Text: "a\n"}, ins("a\n"), skip(1)},
	}
}

// spare is what stands in the spare room of a list.
var spare = []api.Op{skip(7), del("spare\n"), ins("spare\n"), {Kind: 99, N: -1}}

// told holds both calls against the slow ones.
func told(t *testing.T, when string, l []api.Op) {
	t.Helper()
	if got := tidy.Ops(l); !slices.Equal(got, slowOps(l)) {
		t.Errorf("P1302: %s: Ops of %#v: %#v", when, l, got)
	}
	if got := tidy.Idle(l); got != slowIdle(l) {
		t.Errorf("P1302: %s: Idle of %#v: %v", when, l, got)
	}
}

func TestSamplesTellOfAllSorts(t *testing.T) {
	idle, other, none := 0, 0, 0
	for _, l := range samples() {
		switch {
		case len(slowOps(l)) == 0:
			none++
		case slowIdle(l):
			idle++
		default:
			other++
		}
	}
	if idle < 5 || other < 5 || none < 5 {
		t.Errorf("P1302: of samples %d are idle, %d are not, of %d nothing comes: too few to tell anything", idle, other, none)
	}
}

func TestStepsAndTheirSpareRoomAreNotChanged(t *testing.T) {
	for _, was := range samples() {
		room := slices.Concat(was, spare)
		told(t, "with spare room", room[:len(was)])
		if !slices.Equal(room, slices.Concat(was, spare)) {
			t.Errorf("P1302: %#v has become %#v", was, room)
		}
	}
}

func TestOpsAnswersAListOfItsOwn(t *testing.T) {
	for _, was := range samples() {
		room := slices.Concat(was, spare)
		l := room[:len(was)]
		want := slowOps(was)
		first, second := tidy.Ops(l), tidy.Ops(l)
		// All that the answer has, its spare room too, is filled: nothing else may change.
		full := first[:cap(first)]
		for i := range full {
			full[i] = api.Op{Kind: 77, N: 77, Text: "turned"}
		}
		if !slices.Equal(room, slices.Concat(was, spare)) {
			t.Errorf("P1302: the answer shares %#v", was)
		}
		if !slices.Equal(second, want) || !slices.Equal(tidy.Ops(l), want) {
			t.Errorf("P1302: two answers to %#v share a list", was)
		}
		for i := range room {
			room[i] = api.Op{Kind: 77}
		}
		if !slices.Equal(second, want) {
			t.Errorf("P1302: the answer to %#v hangs on the list that was handed in", was)
		}
	}
}

// share tells whether two texts have memory in common.
func share(a, b string) bool {
	if a == "" || b == "" {
		return false
	}
	from := func(s string) uintptr { return uintptr(unsafe.Pointer(unsafe.StringData(s))) }
	return from(a) < from(b)+uintptr(len(b)) && from(b) < from(a)+uintptr(len(a))
}

func TestOpsAnswersTextsOfItsOwn(t *testing.T) {
	for _, l := range samples() {
		first, second := tidy.Ops(l), tidy.Ops(l)
		for _, o := range first {
			for _, other := range slices.Concat(l, second) {
				if share(o.Text, other.Text) {
					t.Errorf("P1302: Ops of %#v: %#v is shared", l, o.Text)
				}
			}
		}
	}
}

// What was kept of a text, or handed on, would turn with its bytes.
func TestTextsAreNeitherKeptNorChanged(t *testing.T) {
	const was = "a\nb\na\nc\nd\n"
	room := []byte(was)
	piece := func(at int) string { return unsafe.String(&room[at], 2) }
	l := steps(ins(piece(0)), keep(piece(2)), ins(piece(6)), del(piece(4)), skip(1), del(piece(8)))
	first, idle := tidy.Ops(l), tidy.Idle(l)
	if string(room) != was {
		t.Errorf("P1302: the texts have become %q", room)
	}
	copy(room, "v\nw\nv\nx\ny\n")
	if want := drawn("-b=a+b+c1-d"); idle || !slices.Equal(first, want) {
		t.Errorf("P1302: Ops hangs on texts that were handed in: %#v, %v", first, idle)
	}
	want(t, l, drawn("-w=v+w+x1-y"), false)
	// Now what comes is another line than what goes.
	room[0] = 'u'
	want(t, l, drawn("+u=w-v+x1-y"), false)
	// And now the line ahead of the Skip is open.
	room[7] = 'x'
	want(t, l, nil, true)
	// Idle has kept nothing of the texts, either.
	two := steps(del(piece(0)), ins(piece(2)))
	copy(room, "a\na\n")
	want(t, two, drawn("=a"), true)
	room[0] = 'b'
	want(t, two, drawn("-b+a"), false)
}

func TestStepsAreNotKept(t *testing.T) {
	l := steps(skip(1), ins("b\n"), del("b\n"), keep("c\n"), skip(2), del("d\n"), ins("d\n"))
	for i, turn := range []func(){
		func() {},
		func() { l[0].N = 7 },
		func() { l[1].Kind = api.Keep },
		func() { l[2].Text = "x\n" },
		func() { l[3] = skip(5) },
		func() { l[4].N = 0 },
		func() { l[4] = keep("k\n") },
		func() { l[5].Text = "z" },
		func() { l[6].Text = "z" },
		func() { l[2].Kind = api.Ins },
		func() { l[0] = keep("z") },
		func() { l = l[1:] },
		func() { l = l[:3] },
		func() { l = l[:6] },
	} {
		turn()
		told(t, "turn "+string(rune('a'+i)), l)
	}
}

// Of one list all pieces are asked.
func TestPiecesOfOneList(t *testing.T) {
	for _, was := range samples() {
		l := slices.Clone(was)
		for from := range len(l) + 1 {
			for to := from; to <= len(l); to++ {
				told(t, "a piece", l[from:to])
			}
		}
		if !slices.Equal(l, was) {
			t.Errorf("P1302: %#v has become %#v", was, l)
		}
	}
}

func TestAnswersHangOnArgumentsAlone(t *testing.T) {
	for _, l := range samples() {
		for _, other := range samples() {
			tidy.Ops(other)
			tidy.Idle(other)
			told(t, "behind others", l)
		}
	}
}

func TestCallsSideBySide(t *testing.T) {
	all := samples()
	var group sync.WaitGroup
	for range 8 {
		group.Go(func() {
			for range 50 {
				for _, l := range all {
					told(t, "side by side", l)
				}
			}
		})
	}
	group.Wait()
}

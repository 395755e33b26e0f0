package ops_test

import (
	"math"
	"slices"
	"strconv"
	"strings"
	"testing"

	"patchwork/api"
	"patchwork/ops"
)

// skip, keep, del, ins make steps, steps lists them.
func skip(n int) api.Op              { return api.Op{Kind: api.Skip, N: n} }
func keep(s string) api.Op           { return api.Op{Kind: api.Keep, Text: s} }
func del(s string) api.Op            { return api.Op{Kind: api.Del, Text: s} }
func ins(s string) api.Op            { return api.Op{Kind: api.Ins, Text: s} }
func steps(l ...api.Op) []api.Op     { return l }
func line(kind int, s string) api.Op { return api.Op{Kind: kind, Text: s} }

// lineKinds are the kinds that have a line.
var lineKinds = []int{api.Keep, api.Del, api.Ins}

// noKinds are kinds that are none.
var noKinds = []int{0, -1, 5, 6, 9, -4, 1 << 8, 1<<8 + api.Keep, 1<<32 + api.Skip, 1<<32 + api.Del, math.MaxInt, math.MinInt}

// wantRight holds Right, and that there is a Norm just where it holds, against what is asked for.
func wantRight(t *testing.T, want bool, l ...api.Op) {
	t.Helper()
	if got := ops.Right(l); got != want {
		t.Errorf("P801: Right of %#v: %v", l, got)
	}
	if got := ops.Norm(l); len(l) > 0 && (len(got) > 0) != want {
		t.Errorf("P802: Norm of %#v: %#v", l, got)
	}
}

func TestNoSteps(t *testing.T) {
	for _, l := range [][]api.Op{nil, {}, make([]api.Op, 0, 3)} {
		if !ops.Right(l) {
			t.Error("P801: Right of none: false")
		}
		if ops.Olds(l) != 0 || ops.News(l) != 0 || ops.Changes(l) != 0 {
			t.Errorf("P801: of none: %d, %d, %d", ops.Olds(l), ops.News(l), ops.Changes(l))
		}
		if got := ops.Norm(l); len(got) != 0 {
			t.Errorf("P802: Norm of none: %#v", got)
		}
	}
}

func TestRightOfOneSkip(t *testing.T) {
	for n, want := range map[int]bool{
		1: true, 2: true, 1 << 20: true, api.MaxNum - 1: true, api.MaxNum: true,
		0: false, -1: false, api.MaxNum + 1: false, -api.MaxNum: false,
		1<<32 + 1: false, 1 << 40: false, math.MaxInt: false, math.MinInt: false, math.MinInt + 1: false,
	} {
		wantRight(t, want, skip(n))
		for _, text := range []string{"a", "a\n", "\n", "a\nb", "\x00"} {
			wantRight(t, false, api.Op{Kind: api.Skip, N: n, Text: text})
		}
	}
}

func TestRightOfOneLine(t *testing.T) {
	for text, want := range map[string]bool{
		"a\n": true, "\n": true, "a": true, "\r": true, "\r\n": true, " ": true, "\x00\n": true, "\xff\xfe": true, "\u2028\n": true,
		"": false, "\n\n": false, "\na": false, "a\nb": false, "a\nb\n": false, "a\n\n": false,
	} {
		for _, kind := range lineKinds {
			wantRight(t, want, line(kind, text))
			for _, n := range []int{1, -1, 2, api.MaxNum, 1 << 32, math.MaxInt, math.MinInt} {
				wantRight(t, false, api.Op{Kind: kind, N: n, Text: text})
			}
		}
	}
}

func TestRightOfKindsThatAreNone(t *testing.T) {
	for _, kind := range noKinds {
		for _, o := range []api.Op{{Kind: kind}, {Kind: kind, N: 1}, {Kind: kind, Text: "a\n"}, {Kind: kind, N: 1, Text: "a\n"}} {
			wantRight(t, false, o)
			for _, other := range steps(skip(1), keep("a\n"), del("a\n"), ins("a\n")) {
				wantRight(t, false, o, other)
				wantRight(t, false, other, o)
				wantRight(t, false, other, o, other)
			}
		}
	}
}

// A step that is wrong is found wherever it stands.
func TestRightOfOneWrongAmongMany(t *testing.T) {
	wrong := steps(skip(0), skip(-1), skip(api.MaxNum+1), api.Op{Kind: api.Skip, N: 1, Text: "a\n"}, api.Op{}, keep(""), del(""), ins(""), keep("\n\n"), del("a\nb"), ins("\na"), api.Op{Kind: api.Keep, N: 1, Text: "a\n"}, api.Op{Kind: api.Del, N: -1, Text: "a\n"}, api.Op{Kind: api.Ins, N: 2, Text: "a\n"})
	all := steps(skip(2), keep("a\n"), del("b\n"), ins("c\n"), skip(1), ins("d\n"), del("e\n"), keep("f\n"))
	wantRight(t, true, all...)
	for _, w := range wrong {
		for i := 0; i <= len(all); i++ {
			wantRight(t, false, slices.Insert(slices.Clone(all), i, w)...)
		}
	}
}

func TestRightOfEachKindBesideEach(t *testing.T) {
	all := steps(skip(1), keep("a\n"), del("a\n"), ins("a\n"))
	for _, x := range all {
		for _, y := range all {
			wantRight(t, true, x, y)
			for _, z := range all {
				wantRight(t, true, x, y, z)
			}
		}
	}
}

func TestRightOfLongSides(t *testing.T) {
	const most = api.MaxNum
	a := "a\n"
	for _, x := range []struct {
		want bool
		l    []api.Op
	}{
		{true, steps(skip(most))},
		{true, steps(skip(most-1), skip(1))},
		{true, steps(skip(1), skip(most-1))},
		{true, steps(skip(1<<30), skip(1<<30))},
		{true, steps(skip(1<<30), keep(a), skip(1<<30-1))},
		{true, steps(skip(most-1), keep(a))},
		{true, steps(keep(a), skip(most-1))},
		{true, steps(skip(most-1), del(a))},
		{true, steps(skip(most-1), ins(a))},
		{true, steps(skip(most-1), del(a), ins(a))},
		{true, steps(ins(a), skip(most-1), del(a))},
		{true, steps(del(a), ins(a), skip(most-2), del(a), ins(a))},
		{true, steps(skip(most-3), keep(a), del(a), del(a), ins(a), ins(a))},
		{false, steps(skip(most), skip(1))},
		{false, steps(skip(1), skip(most))},
		{false, steps(skip(1<<30), skip(1<<30), skip(1))},
		{false, steps(skip(1<<30), keep(a), skip(1<<30))},
		{false, steps(skip(most), skip(most))},
		{false, steps(skip(most), keep(a))},
		{false, steps(keep(a), skip(most))},
		{false, steps(skip(most), keep("a"))},
		{false, steps(skip(most), del(a))},
		{false, steps(skip(most), ins(a))},
		{false, steps(del(a), skip(most))},
		{false, steps(ins(a), skip(most))},
		{false, steps(skip(most-1), del(a), del(a))},
		{false, steps(skip(most-1), ins(a), ins(a))},
		{false, steps(del(a), ins(a), skip(most-1), ins(a))},
		{false, steps(del(a), ins(a), skip(most-1), del(a))},
		{false, steps(skip(most-3), keep(a), del(a), del(a), del(a), ins(a))},
		{false, steps(skip(most-3), keep(a), del(a), ins(a), ins(a), ins(a))},
		{true, slices.Repeat(steps(skip(1<<16)), 1<<15)},
		{false, append(slices.Repeat(steps(skip(1<<16)), 1<<15), skip(1))},
		{false, slices.Repeat(steps(skip(most)), 600)},
		// Counted round, these would be few again.
		{false, slices.Repeat(steps(skip(most)), 2)},
		{false, slices.Repeat(steps(skip(most)), 1<<10)},
	} {
		if got := ops.Right(x.l); got != x.want {
			t.Errorf("P801: Right of %d steps, the first of them %#v, with %d and %d lines: %v", len(x.l), x.l[:1], ops.Olds(x.l), ops.News(x.l), got)
		}
		if got := ops.Norm(x.l); (len(got) > 0) != x.want {
			t.Errorf("P802: Norm of %d steps, the first of them %#v: %#v", len(x.l), x.l[:1], got)
		}
	}
}

func TestRightBehindAnOpenLine(t *testing.T) {
	a := "a\n"
	for _, x := range []struct {
		want bool
		l    []api.Op
	}{
		// of both sides
		{true, steps(keep("z"))},
		{true, steps(skip(1), keep("z"))},
		{false, steps(keep("z"), skip(1))},
		{false, steps(keep("z"), skip(api.MaxNum-1))},
		{false, steps(keep("z"), keep(a))},
		{false, steps(keep("z"), del(a))},
		{false, steps(keep("z"), ins(a))},
		{false, steps(keep("z"), keep("z"))},
		{false, steps(keep("z"), del("z"))},
		{false, steps(keep("z"), ins("z"))},
		// of the old side
		{true, steps(del("z"))},
		{true, steps(del("z"), ins(a))},
		{true, steps(del("z"), ins("y"))},
		{true, steps(del("z"), ins(a), ins(a), ins("y"))},
		{true, steps(ins(a), del("z"), ins(a))},
		{false, steps(del("z"), skip(1))},
		{false, steps(del("z"), keep(a))},
		{false, steps(del("z"), keep("y"))},
		{false, steps(del("z"), del(a))},
		{false, steps(del("z"), del("y"))},
		{false, steps(del("z"), ins(a), skip(1))},
		{false, steps(del("z"), ins(a), ins(a), keep(a))},
		{false, steps(del("z"), ins(a), keep("y"))},
		{false, steps(del("z"), ins(a), ins(a), ins(a), del(a))},
		{false, steps(del("z"), ins(a), del("y"))},
		// of the new side
		{true, steps(ins("z"))},
		{true, steps(ins("z"), del(a))},
		{true, steps(ins("z"), del("y"))},
		{true, steps(ins("z"), del(a), del(a), del("y"))},
		{true, steps(del(a), ins("z"), del(a))},
		{false, steps(ins("z"), skip(1))},
		{false, steps(ins("z"), keep(a))},
		{false, steps(ins("z"), keep("y"))},
		{false, steps(ins("z"), ins(a))},
		{false, steps(ins("z"), ins("y"))},
		{false, steps(ins("z"), del(a), skip(1))},
		{false, steps(ins("z"), del(a), del(a), keep(a))},
		{false, steps(ins("z"), del(a), keep("y"))},
		{false, steps(ins("z"), del(a), del(a), del(a), ins(a))},
		{false, steps(ins("z"), del(a), ins("y"))},
		// of each side one
		{true, steps(ins(a), del("z"), ins("y"))},
		{true, steps(del(a), ins("z"), del("y"))},
		{false, steps(del("z"), ins("y"), skip(1))},
		{false, steps(del("z"), ins("y"), keep(a))},
		{false, steps(del("z"), ins("y"), keep("x"))},
		{false, steps(del("z"), ins("y"), del(a))},
		{false, steps(del("z"), ins("y"), ins(a))},
		{false, steps(ins("z"), del("y"), skip(1))},
		{false, steps(ins("z"), del("y"), keep(a))},
		{false, steps(ins("z"), del("y"), del("x"))},
		{false, steps(ins("z"), del("y"), ins("x"))},
		// a byte 13 closes nothing, a byte 10 alone is closed
		{false, steps(keep("z\r"), keep(a))},
		{true, steps(keep("\n"), keep(a))},
		{true, steps(keep("z\r\n"), skip(1))},
	} {
		wantRight(t, x.want, x.l...)
		wantRight(t, x.want, append(steps(keep(a), skip(3), ins(a), del(a), skip(1)), x.l...)...)
	}
}

func TestCounts(t *testing.T) {
	const most = 1 << 40
	for _, x := range []struct {
		l                   []api.Op
		olds, news, changes int
	}{
		{steps(skip(1)), 1, 1, 0},
		{steps(skip(7)), 7, 7, 0},
		{steps(keep("a\n")), 1, 1, 0},
		{steps(del("a\n")), 1, 0, 1},
		{steps(ins("a\n")), 0, 1, 1},
		{steps(skip(3), keep("a\n"), del("b\n"), ins("c\n"), ins("d")), 5, 6, 3},
		{steps(del("a\n"), skip(2), del("b\n"), skip(3), del("c\n"), ins("d\n")), 8, 6, 4},
		{slices.Repeat(steps(skip(2), keep("a\n"), del("b\n"), ins("c\n"), ins("d\n")), 1000), 4000, 5000, 3000},
		// what is not Right is counted, too
		{steps(keep(""), del(""), ins(""), ins("\n\n")), 2, 3, 3},
		{steps(keep("a"), keep("b"), skip(1), del("c"), del("d")), 5, 3, 2},
		{steps(api.Op{Kind: api.Keep, N: 99, Text: "a\n"}, api.Op{Kind: api.Del, N: -99}, api.Op{Kind: api.Ins, N: math.MaxInt}), 2, 2, 2},
		{steps(api.Op{Kind: api.Skip, N: 4, Text: "a\n"}, api.Op{Kind: api.Skip, Text: "a\n"}), 4, 4, 0},
		{steps(skip(0)), 0, 0, 0},
		{steps(api.Op{}, api.Op{N: 5, Text: "a\n"}, api.Op{Kind: 5, N: 7, Text: "a\n"}, api.Op{Kind: -1, N: 7}), 0, 0, 0},
		// N below 0
		{steps(skip(-1)), 0, 0, 0},
		{steps(skip(math.MinInt)), 0, 0, 0},
		{steps(skip(5), skip(-3)), 5, 5, 0},
		{steps(skip(-3), skip(5), skip(-9), keep("a\n")), 6, 6, 0},
		{steps(skip(math.MinInt), skip(math.MinInt), del("a\n")), 1, 0, 1},
		// great sums
		{steps(skip(api.MaxNum), skip(1)), api.MaxNum + 1, api.MaxNum + 1, 0},
		{steps(skip(most - 1)), most - 1, most - 1, 0},
		{steps(skip(most)), most, most, 0},
		{steps(skip(most + 1)), most, most, 0},
		{steps(skip(math.MaxInt)), most, most, 0},
		{steps(skip(math.MaxInt), skip(1)), most, most, 0},
		{steps(skip(1), skip(math.MaxInt)), most, most, 0},
		{steps(skip(math.MaxInt), skip(math.MaxInt), skip(2)), most, most, 0},
		{steps(skip(most-1), keep("a\n")), most, most, 0},
		{steps(skip(most-1), del("a\n")), most, most - 1, 1},
		{steps(skip(most-1), ins("a\n")), most - 1, most, 1},
		{steps(skip(most-2), ins("a\n"), ins("a\n"), ins("a\n"), del("a\n")), most - 1, most, 4},
		{steps(keep("a\n"), skip(most)), most, most, 0},
		{steps(skip(most), skip(-5)), most, most, 0},
		{steps(skip(most), skip(-5), keep("a\n"), del("a\n")), most, most, 1},
		{steps(skip(math.MaxInt), skip(math.MinInt), skip(math.MaxInt)), most, most, 0},
		{steps(skip(math.MinInt), skip(most-1), skip(math.MinInt)), most - 1, most - 1, 0},
		{slices.Repeat(steps(skip(api.MaxNum)), 511), 511 << 31, 511 << 31, 0},
		{slices.Repeat(steps(skip(api.MaxNum)), 512), most, most, 0},
		{slices.Repeat(steps(skip(api.MaxNum)), 513), most, most, 0},
		{slices.Repeat(steps(skip(math.MaxInt), del("a\n")), 100), most, most, 100},
	} {
		olds, news, changes := ops.Olds(x.l), ops.News(x.l), ops.Changes(x.l)
		if olds != x.olds || news != x.news || changes != x.changes {
			t.Errorf("P801: of %d steps, the first of them %#v: Olds %d, News %d, Changes %d", len(x.l), x.l[:1], olds, news, changes)
		}
	}
	for _, kind := range noKinds {
		l := steps(api.Op{Kind: kind, N: 3, Text: "a\n"}, api.Op{Kind: kind, N: math.MaxInt})
		if ops.Olds(l) != 0 || ops.News(l) != 0 || ops.Changes(l) != 0 {
			t.Errorf("P801: of kind %d: %d, %d, %d", kind, ops.Olds(l), ops.News(l), ops.Changes(l))
		}
	}
}

func TestSame(t *testing.T) {
	one := api.Op{Kind: api.Keep, N: 3, Text: "a\n"}
	turned := steps(
		api.Op{Kind: api.Del, N: 3, Text: "a\n"}, api.Op{Kind: 9, N: 3, Text: "a\n"}, api.Op{Kind: 1<<32 + api.Keep, N: 3, Text: "a\n"},
		api.Op{Kind: api.Keep, N: 4, Text: "a\n"}, api.Op{Kind: api.Keep, N: -3, Text: "a\n"}, api.Op{Kind: api.Keep, N: 1<<32 + 3, Text: "a\n"},
		api.Op{Kind: api.Keep, N: 3, Text: "a"}, api.Op{Kind: api.Keep, N: 3, Text: "b\n"}, api.Op{Kind: api.Keep, N: 3}, api.Op{Kind: api.Keep, N: 3, Text: "A\n"},
		api.Op{})
	want := func(want bool, a, b []api.Op) {
		t.Helper()
		if ops.Same(a, b) != want || ops.Same(b, a) != want {
			t.Errorf("P801: Same of %#v, %#v: %v, %v", a, b, ops.Same(a, b), ops.Same(b, a))
		}
	}
	want(true, nil, nil)
	want(true, nil, []api.Op{})
	want(true, []api.Op{}, make([]api.Op, 0, 5))
	want(false, nil, steps(api.Op{}))
	want(false, steps(api.Op{}), steps(api.Op{}, api.Op{}))
	for at := range 4 {
		row := steps(skip(1), one, ins("x"), one)
		was := slices.Clone(row)
		want(true, row, was)
		want(false, row, row[:at])
		want(false, row, row[at+1:])
		want(false, row, slices.Delete(slices.Clone(row), at, at+1))
		want(false, row, slices.Insert(slices.Clone(row), at, one, one))
		row[at], was[at] = one, one
		want(true, row, was)
		for _, o := range turned {
			was[at] = o
			want(false, row, was)
		}
	}
	// What does the same is not the same, but where it is written the same.
	want(false, steps(skip(1), skip(1)), steps(skip(2)))
	want(false, steps(ins("a\n"), del("b\n")), steps(del("b\n"), ins("a\n")))
}

func TestNorm(t *testing.T) {
	for _, x := range []struct{ l, want []api.Op }{
		{steps(skip(1)), steps(skip(1))},
		{steps(keep("a\n")), steps(keep("a\n"))},
		{steps(del("a\n")), steps(del("a\n"))},
		{steps(ins("a")), steps(ins("a"))},
		// Skips
		{steps(skip(1), skip(2)), steps(skip(3))},
		{steps(skip(1), skip(2), skip(3), skip(4)), steps(skip(10))},
		{steps(skip(1), skip(2), keep("a\n"), skip(3), skip(4)), steps(skip(3), keep("a\n"), skip(7))},
		{steps(skip(1), del("a\n"), skip(2)), steps(skip(1), del("a\n"), skip(2))},
		{steps(skip(1), ins("a\n"), skip(2)), steps(skip(1), ins("a\n"), skip(2))},
		{steps(skip(1), skip(1), ins("a\n"), skip(2), skip(2), del("b\n"), skip(3), skip(3)), steps(skip(2), ins("a\n"), skip(4), del("b\n"), skip(6))},
		{steps(skip(api.MaxNum)), steps(skip(api.MaxNum))},
		{steps(skip(api.MaxNum-1), skip(1)), steps(skip(api.MaxNum))},
		{steps(skip(1<<30), skip(1<<29), skip(1<<29)), steps(skip(api.MaxNum))},
		{steps(ins("a\n"), skip(1<<30), skip(1<<30-1)), steps(ins("a\n"), skip(api.MaxNum-1))},
		{slices.Repeat(steps(skip(1)), 5000), steps(skip(5000))},
		// Keeps stay as they are
		{steps(keep("b\n"), keep("a\n"), keep("a\n")), steps(keep("b\n"), keep("a\n"), keep("a\n"))},
		// rows
		{steps(ins("a\n"), del("b\n")), steps(del("b\n"), ins("a\n"))},
		{steps(del("b\n"), ins("a\n")), steps(del("b\n"), ins("a\n"))},
		{steps(ins("2\n"), ins("1\n"), del("4\n"), del("3\n")), steps(del("4\n"), del("3\n"), ins("2\n"), ins("1\n"))},
		{steps(ins("2\n"), del("4\n"), ins("1\n"), del("3\n")), steps(del("4\n"), del("3\n"), ins("2\n"), ins("1\n"))},
		{steps(del("4\n"), ins("2\n"), del("3\n"), ins("1\n")), steps(del("4\n"), del("3\n"), ins("2\n"), ins("1\n"))},
		{steps(ins("a\n"), del("a\n")), steps(del("a\n"), ins("a\n"))},
		{steps(ins("a\n"), keep("k\n"), del("b\n")), steps(ins("a\n"), keep("k\n"), del("b\n"))},
		{steps(ins("a\n"), skip(1), del("b\n")), steps(ins("a\n"), skip(1), del("b\n"))},
		{steps(ins("a\n"), del("b\n"), keep("k\n"), ins("c\n"), del("d\n"), skip(2), ins("e\n"), del("f\n")), steps(del("b\n"), ins("a\n"), keep("k\n"), del("d\n"), ins("c\n"), skip(2), del("f\n"), ins("e\n"))},
		{steps(keep("k\n"), ins("a\n"), ins("b\n"), keep("l\n"), ins("c\n"), keep("m\n")), steps(keep("k\n"), ins("a\n"), ins("b\n"), keep("l\n"), ins("c\n"), keep("m\n"))},
		// open lines
		{steps(ins("a"), del("b")), steps(del("b"), ins("a"))},
		{steps(ins("a"), del("b\n"), del("c")), steps(del("b\n"), del("c"), ins("a"))},
		{steps(del("a"), ins("b\n"), ins("c")), steps(del("a"), ins("b\n"), ins("c"))},
		{steps(skip(1), skip(1), keep("z")), steps(skip(2), keep("z"))},
	} {
		if got := ops.Norm(x.l); !slices.Equal(got, x.want) {
			t.Errorf("P802: Norm of %#v: %#v", x.l, got)
		}
	}
}

func TestNormOfWhatIsNotRight(t *testing.T) {
	for _, l := range [][]api.Op{
		{skip(0)},
		{skip(1), skip(0)},
		{skip(-1), skip(2)},
		{skip(api.MaxNum), skip(1)},
		{skip(api.MaxNum + 1)},
		{keep("a\n"), keep("")},
		{del("a\n"), ins("b\nc")},
		{keep("a\n"), {}},
		{ins("a"), del("b\n"), skip(1)},
		{del("a"), ins("b\n"), del("c\n")},
		{keep("a\n"), {Kind: api.Ins, N: 1, Text: "b\n"}},
	} {
		if got := ops.Norm(l); len(got) != 0 {
			t.Errorf("P802: Norm of %#v, which are not Right: %#v", l, got)
		}
	}
}

// Rows of every order of Del and Ins stand alone, at the beginning, at the end, and between what stays.
func TestNormOfRowsInEveryOrder(t *testing.T) {
	edges := [][]api.Op{nil, {skip(3)}, {keep("k\n")}, {ins("i\n"), keep("k\n")}, {keep("k\n"), del("d\n")}}
	for size := 1; size <= 7; size++ {
		for which := range 1 << size {
			var row, dels, inses []api.Op
			for i := range size {
				text := strconv.Itoa(i) + "\n"
				if which>>i&1 == 0 {
					row, dels = append(row, del(text)), append(dels, del(text))
				} else {
					row, inses = append(row, ins(text)), append(inses, ins(text))
				}
			}
			for _, ahead := range edges[:4] {
				for _, behind := range edges[:3] {
					l := slices.Concat(ahead, row, behind)
					if got, want := ops.Norm(l), slices.Concat(ahead, dels, inses, behind); !slices.Equal(got, want) {
						t.Errorf("P802: Norm of %#v: %#v", l, got)
					}
				}
				l := slices.Concat(ahead, row, edges[4])
				if got, want := ops.Norm(l), slices.Concat(ahead, dels, inses, edges[4]); !slices.Equal(got, want) {
					t.Errorf("P802: Norm of %#v: %#v", l, got)
				}
			}
		}
	}
}

// Many steps take no more than their number: each is looked at a few times.
func TestManySteps(t *testing.T) {
	const n = 20000
	for _, x := range []struct {
		l          []api.Op
		olds, news int
		left       int
	}{
		{slices.Repeat(steps(skip(1)), n), n, n, 1},
		{slices.Repeat(steps(keep("a\n")), n), n, n, n},
		{slices.Repeat(steps(ins("a\n")), n), 0, n, n},
		{slices.Repeat(steps(ins("a\n"), del("b\n")), n), n, n, 2 * n},
		{slices.Repeat(steps(ins("a\n"), del("b\n"), skip(1), skip(1)), n), 3 * n, 3 * n, 3 * n},
		{steps(keep(strings.Repeat("x", 1<<22))), 1, 1, 1},
	} {
		if !ops.Right(x.l) || ops.Olds(x.l) != x.olds || ops.News(x.l) != x.news {
			t.Errorf("P801: of %d steps: %v, %d, %d", len(x.l), ops.Right(x.l), ops.Olds(x.l), ops.News(x.l))
		}
		if got := ops.Norm(x.l); len(got) != x.left || ops.Changes(got) != ops.Changes(x.l) {
			t.Errorf("P802: Norm of %d steps: %d", len(x.l), len(got))
		}
	}
}

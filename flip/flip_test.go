package flip_test

import (
	"math"
	"slices"
	"strconv"
	"strings"
	"testing"

	"patchwork/api"
	"patchwork/apply"
	"patchwork/flip"
	"patchwork/ops"
)

// skip, keep, del, ins make steps, steps and file list them and lines.
func skip(n int) api.Op          { return api.Op{Kind: api.Skip, N: n} }
func keep(s string) api.Op       { return api.Op{Kind: api.Keep, Text: s} }
func del(s string) api.Op        { return api.Op{Kind: api.Del, Text: s} }
func ins(s string) api.Op        { return api.Op{Kind: api.Ins, Text: s} }
func steps(l ...api.Op) []api.Op { return l }
func file(l ...string) []string  { return l }

// wantBack holds Ops of l against what must come, and that it is turned back to ops.Norm.
func wantBack(t *testing.T, l, want []api.Op) {
	t.Helper()
	got := flip.Ops(l)
	if !slices.Equal(got, want) {
		t.Errorf("P1001: Ops of %#v: %#v; wanted %#v", l, got, want)
	}
	if twice := flip.Ops(got); !slices.Equal(twice, ops.Norm(l)) {
		t.Errorf("P1002: Ops of %#v turned back twice: %#v", l, twice)
	}
}

// wantNone holds that steps that are not ops.Right have nothing that undoes them.
func wantNone(t *testing.T, l ...api.Op) {
	t.Helper()
	if ops.Right(l) {
		t.Errorf("%#v is right: no test of what is not", l)
	}
	if got := flip.Ops(l); len(got) != 0 {
		t.Errorf("P1001: Ops of %#v, which are not Right: %#v", l, got)
	}
}

func TestNoSteps(t *testing.T) {
	for _, l := range [][]api.Op{nil, {}, make([]api.Op, 0, 3), steps(del("a\n"), ins("b\n"))[:0]} {
		wantBack(t, l, nil)
	}
}

func TestOneStep(t *testing.T) {
	for _, text := range []string{"a\n", "\n", "a", "\r", "\r\n", " ", "\x00\n", "\xff\xfe", "\u2028\n", strings.Repeat("x", 1000) + "\n"} {
		wantBack(t, steps(del(text)), steps(ins(text)))
		wantBack(t, steps(ins(text)), steps(del(text)))
		wantBack(t, steps(keep(text)), steps(keep(text)))
	}
	for _, n := range []int{1, 2, 3, 4, 100, api.MaxNum - 1, api.MaxNum} {
		wantBack(t, steps(skip(n)), steps(skip(n)))
	}
}

func TestOrdinarySteps(t *testing.T) {
	for _, x := range []struct{ l, want []api.Op }{
		{steps(skip(2), del("a\n"), ins("b\n"), keep("c\n")), steps(skip(2), del("b\n"), ins("a\n"), keep("c\n"))},
		{steps(keep("a\n"), del("b\n"), keep("c\n"), skip(5), keep("d\n"), ins("e\n"), keep("f\n")), steps(keep("a\n"), ins("b\n"), keep("c\n"), skip(5), keep("d\n"), del("e\n"), keep("f\n"))},
		{steps(ins("a\n"), skip(1), del("a\n")), steps(del("a\n"), skip(1), ins("a\n"))},
		{steps(del("1\n"), del("2\n"), skip(3), ins("3\n"), ins("4\n")), steps(ins("1\n"), ins("2\n"), skip(3), del("3\n"), del("4\n"))},
		{steps(del("a\n"), ins("x\n"), skip(1), ins("y\n"), keep("k\n"), del("b\n"), del("c\n"), ins("z\n")), steps(del("x\n"), ins("a\n"), skip(1), del("y\n"), keep("k\n"), del("z\n"), ins("b\n"), ins("c\n"))},
		{steps(keep("b\n"), keep("a\n"), keep("a\n")), steps(keep("b\n"), keep("a\n"), keep("a\n"))},
		{steps(keep("a\n"), skip(1), keep("a\n"), skip(2)), steps(keep("a\n"), skip(1), keep("a\n"), skip(2))},
	} {
		wantBack(t, x.l, x.want)
		wantBack(t, x.want, ops.Norm(x.l))
	}
}

func TestRows(t *testing.T) {
	for _, x := range []struct{ l, want []api.Op }{
		{steps(del("a\n"), ins("b\n")), steps(del("b\n"), ins("a\n"))},
		{steps(ins("a\n"), del("b\n")), steps(del("a\n"), ins("b\n"))},
		{steps(del("a\n"), ins("a\n")), steps(del("a\n"), ins("a\n"))},
		{steps(del("2\n"), del("1\n")), steps(ins("2\n"), ins("1\n"))},
		{steps(ins("2\n"), ins("1\n"), del("4\n"), del("3\n")), steps(del("2\n"), del("1\n"), ins("4\n"), ins("3\n"))},
		{steps(ins("2\n"), del("4\n"), ins("1\n"), del("3\n")), steps(del("2\n"), del("1\n"), ins("4\n"), ins("3\n"))},
		{steps(del("4\n"), ins("2\n"), del("3\n"), ins("1\n")), steps(del("2\n"), del("1\n"), ins("4\n"), ins("3\n"))},
		// What stays ends a row.
		{steps(del("a\n"), keep("k\n"), ins("b\n")), steps(ins("a\n"), keep("k\n"), del("b\n"))},
		{steps(del("a\n"), skip(1), ins("b\n")), steps(ins("a\n"), skip(1), del("b\n"))},
		{steps(ins("a\n"), keep("k\n"), del("b\n")), steps(del("a\n"), keep("k\n"), ins("b\n"))},
		{steps(del("a\n"), ins("b\n"), keep("k\n"), del("c\n"), ins("d\n"), skip(2), del("e\n"), ins("f\n")), steps(del("b\n"), ins("a\n"), keep("k\n"), del("d\n"), ins("c\n"), skip(2), del("f\n"), ins("e\n"))},
	} {
		wantBack(t, x.l, x.want)
	}
}

// Rows of every order of Del and Ins stand alone, at the beginning, at the end, and between what stays.
func TestRowsInEveryOrder(t *testing.T) {
	edges := [][]api.Op{nil, {skip(3)}, {keep("k\n")}, {keep("k\n"), skip(1)}, {skip(1), keep("k\n")}}
	for size := 1; size <= 8; size++ {
		for which := range 1 << size {
			var row, dels, inses []api.Op
			for i := range size {
				text := strconv.Itoa(i) + "\n"
				if which>>i&1 == 0 {
					row, inses = append(row, del(text)), append(inses, ins(text))
				} else {
					row, dels = append(row, ins(text)), append(dels, del(text))
				}
			}
			for _, ahead := range edges {
				for _, behind := range edges {
					wantBack(t, slices.Concat(ahead, row, behind), slices.Concat(ahead, dels, inses, behind))
				}
			}
			wantBack(t, slices.Concat(row, steps(skip(1)), row), slices.Concat(dels, inses, steps(skip(1)), dels, inses))
		}
	}
}

func TestSkipsSideBySide(t *testing.T) {
	for _, x := range []struct{ l, want []api.Op }{
		{steps(skip(1), skip(1)), steps(skip(2))},
		{steps(skip(1), skip(2), skip(3), skip(4)), steps(skip(10))},
		{steps(skip(1), skip(2), keep("a\n"), skip(3), skip(4)), steps(skip(3), keep("a\n"), skip(7))},
		{steps(skip(1), skip(2), del("a\n"), skip(3), skip(4)), steps(skip(3), ins("a\n"), skip(7))},
		{steps(ins("a\n"), skip(1), skip(1), del("b\n"), skip(2), skip(2)), steps(del("a\n"), skip(2), ins("b\n"), skip(4))},
		{steps(skip(1), del("a\n"), skip(2)), steps(skip(1), ins("a\n"), skip(2))},
		{steps(skip(1), ins("a\n"), skip(2)), steps(skip(1), del("a\n"), skip(2))},
		{slices.Repeat(steps(skip(1)), 5000), steps(skip(5000))},
	} {
		wantBack(t, x.l, x.want)
	}
}

func TestOpenLines(t *testing.T) {
	for _, x := range []struct{ l, want []api.Op }{
		// one stays
		{steps(skip(1), keep("z")), steps(skip(1), keep("z"))},
		{steps(del("a\n"), keep("z")), steps(ins("a\n"), keep("z"))},
		{steps(ins("a\n"), del("b\n"), keep("z")), steps(del("a\n"), ins("b\n"), keep("z"))},
		// one goes
		{steps(skip(1), del("z")), steps(skip(1), ins("z"))},
		{steps(del("z"), ins("z\n")), steps(del("z\n"), ins("z"))},
		{steps(del("z"), ins("a\n"), ins("b\n")), steps(del("a\n"), del("b\n"), ins("z"))},
		{steps(ins("a\n"), del("z"), ins("b\n")), steps(del("a\n"), del("b\n"), ins("z"))},
		{steps(del("a\n"), ins("b\n"), del("z")), steps(del("b\n"), ins("a\n"), ins("z"))},
		// one comes
		{steps(skip(1), ins("z")), steps(skip(1), del("z"))},
		{steps(del("z\n"), ins("z")), steps(del("z"), ins("z\n"))},
		{steps(ins("z"), del("a\n"), del("b\n")), steps(del("z"), ins("a\n"), ins("b\n"))},
		{steps(del("a\n"), ins("b\n"), ins("z"), del("c\n")), steps(del("b\n"), del("z"), ins("a\n"), ins("c\n"))},
		// one goes, one comes
		{steps(del("z"), ins("y")), steps(del("y"), ins("z"))},
		{steps(ins("y"), del("z")), steps(del("y"), ins("z"))},
		{steps(keep("k\n"), del("z"), ins("z")), steps(keep("k\n"), del("z"), ins("z"))},
		{steps(del("a\n"), del("z"), ins("b\n"), ins("y")), steps(del("b\n"), del("y"), ins("a\n"), ins("z"))},
		// a byte 13 closes nothing
		{steps(del("z\r"), ins("y\r\n")), steps(del("y\r\n"), ins("z\r"))},
	} {
		wantBack(t, x.l, x.want)
	}
}

func TestLongSides(t *testing.T) {
	const most = api.MaxNum
	a := "a\n"
	for _, x := range []struct{ l, want []api.Op }{
		{steps(skip(most-1), skip(1)), steps(skip(most))},
		{steps(skip(1<<30), skip(1<<30)), steps(skip(most))},
		{steps(skip(most-1), del(a)), steps(skip(most-1), ins(a))},
		{steps(skip(most-1), ins(a)), steps(skip(most-1), del(a))},
		{steps(ins(a), skip(most-1), del(a)), steps(del(a), skip(most-1), ins(a))},
		{steps(del(a), ins(a), skip(most-2), del(a), ins("b")), steps(del(a), ins(a), skip(most-2), del("b"), ins(a))},
		{steps(del(a), skip(1<<30), skip(1<<30-1)), steps(ins(a), skip(most-1))},
		{steps(skip(most-3), keep(a), del(a), del("z")), steps(skip(most-3), keep(a), ins(a), ins("z"))},
		{slices.Repeat(steps(skip(1<<16)), 1<<15), steps(skip(most))},
	} {
		wantBack(t, x.l, x.want)
	}
	wantNone(t, skip(most), skip(1))
	wantNone(t, skip(most), keep(a))
	wantNone(t, skip(most), del(a))
	wantNone(t, skip(most), ins(a))
	wantNone(t, del(a), skip(most))
	wantNone(t, ins(a), skip(most))
	wantNone(t, skip(most-1), del(a), del(a))
	wantNone(t, skip(most-1), ins(a), ins(a))
	wantNone(t, del(a), ins(a), skip(most-1), del(a))
	wantNone(t, del(a), ins(a), skip(most-1), ins(a))
	wantNone(t, skip(1<<30), skip(1<<30), skip(1))
	// Counted round, these would be few again.
	wantNone(t, slices.Repeat(steps(skip(most)), 2)...)
	wantNone(t, slices.Repeat(steps(skip(most)), 1<<10)...)
}

// wrong lists steps that can't be, whatever stands beside them.
func wrong() []api.Op {
	out := steps(
		skip(0), skip(-1), skip(api.MaxNum+1), skip(1<<32+1), skip(math.MaxInt), skip(math.MinInt),
		api.Op{Kind: api.Skip, N: 1, Text: "a\n"}, api.Op{Kind: api.Skip, N: 1, Text: "\x00"},
	)
	for _, kind := range []int{api.Keep, api.Del, api.Ins} {
		for _, text := range []string{"", "\n\n", "\na", "a\nb", "a\nb\n", "a\n\n"} {
			out = append(out, api.Op{Kind: kind, Text: text})
		}
		for _, n := range []int{1, -1, api.MaxNum, 1 << 32, math.MaxInt, math.MinInt} {
			out = append(out, api.Op{Kind: kind, N: n, Text: "a\n"})
		}
	}
	for _, kind := range []int{0, -1, 5, -api.Del, -api.Ins, 1<<8 + api.Del, 1<<32 + api.Ins, 1<<32 + api.Skip, math.MaxInt, math.MinInt} {
		out = append(out, api.Op{Kind: kind}, api.Op{Kind: kind, N: 1}, api.Op{Kind: kind, Text: "a\n"})
	}
	return out
}

// A step that is wrong is found wherever it stands.
func TestStepsThatAreWrongAlone(t *testing.T) {
	all := steps(skip(2), keep("a\n"), del("b\n"), ins("c\n"), skip(1), ins("d\n"), del("e\n"), keep("f\n"))
	wantBack(t, all, steps(skip(2), keep("a\n"), del("c\n"), ins("b\n"), skip(1), del("d\n"), ins("e\n"), keep("f\n")))
	for _, w := range wrong() {
		wantNone(t, w)
		for i := 0; i <= len(all); i++ {
			wantNone(t, slices.Insert(slices.Clone(all), i, w)...)
		}
	}
}

func TestStepsBehindAnOpenLine(t *testing.T) {
	for _, behind := range steps(skip(1), keep("a\n"), keep("z"), del("a\n"), del("z"), ins("a\n"), ins("z")) {
		wantNone(t, keep("z"), behind)
		if behind.Kind != api.Ins {
			wantNone(t, del("z"), behind)
			wantNone(t, del("z"), ins("a\n"), behind)
		}
		if behind.Kind != api.Del {
			wantNone(t, ins("z"), behind)
			wantNone(t, ins("z"), del("a\n"), behind)
		}
	}
}

// wantUndone holds that the steps make new lines of old ones, and what is turned back old ones of the new.
func wantUndone(t *testing.T, l []api.Op, old, young []string) {
	t.Helper()
	if got, ok := apply.Do(l, old); !ok || !slices.Equal(got, young) {
		t.Errorf("%#v done to %q: %q, %v; wanted %q", l, old, got, ok, young)
	}
	back := flip.Ops(l)
	if got, ok := apply.Do(back, young); !ok || !slices.Equal(got, old) {
		t.Errorf("P1002: %#v, turned back from %#v, done to %q: %q, %v; wanted %q", back, l, young, got, ok, old)
	}
}

func TestWhatWasDoneIsUndone(t *testing.T) {
	abc, abz := file("a\n", "b\n", "c\n"), file("a\n", "b\n", "z")
	for _, x := range []struct {
		l          []api.Op
		old, young []string
	}{
		{nil, nil, nil},
		{nil, abc, abc},
		{nil, abz, abz},
		{steps(skip(3)), abz, abz},
		{steps(keep("a\n"), skip(1), skip(1)), abc, abc},
		{steps(ins("x\n")), nil, file("x\n")},
		{steps(ins("x")), nil, file("x")},
		{steps(del("x\n")), file("x\n"), nil},
		{steps(del("x")), file("x"), nil},
		{steps(del("a\n"), del("b\n"), del("c\n")), abc, nil},
		{steps(del("a\n"), del("b\n"), del("z")), abz, nil},
		{steps(ins("a\n"), ins("b\n"), ins("z")), nil, abz},
		{steps(ins("x\n")), abc, file("x\n", "a\n", "b\n", "c\n")},
		{steps(ins("x\n")), abz, file("x\n", "a\n", "b\n", "z")},
		{steps(del("a\n")), abz, file("b\n", "z")},
		{steps(skip(1), del("b\n"), ins("x\n"), ins("y\n")), abc, file("a\n", "x\n", "y\n", "c\n")},
		{steps(skip(1), ins("x\n"), del("b\n"), ins("y\n"), keep("z")), abz, file("a\n", "x\n", "y\n", "z")},
		{steps(keep("a\n"), ins("b\n"), keep("b\n")), abc, file("a\n", "b\n", "b\n", "c\n")},
		// The open line stays, goes, comes, is another one.
		{steps(skip(1), del("b\n"), skip(1)), abz, file("a\n", "z")},
		{steps(skip(2), del("z")), abz, file("a\n", "b\n")},
		{steps(skip(2), del("z"), ins("z\n")), abz, file("a\n", "b\n", "z\n")},
		{steps(skip(2), ins("z\n"), del("z"), ins("y\n")), abz, file("a\n", "b\n", "z\n", "y\n")},
		{steps(skip(3), ins("z")), abc, file("a\n", "b\n", "c\n", "z")},
		{steps(skip(2), del("c\n"), ins("c")), abc, file("a\n", "b\n", "c")},
		{steps(skip(2), ins("y"), del("c\n")), abc, file("a\n", "b\n", "y")},
		{steps(skip(2), ins("y"), del("z")), abz, file("a\n", "b\n", "y")},
		{steps(skip(2), del("z"), ins("z")), abz, abz},
	} {
		wantUndone(t, x.l, x.old, x.young)
		wantUndone(t, flip.Ops(x.l), x.young, x.old)
	}
}

func TestAnyBytes(t *testing.T) {
	var l, want []api.Op
	for b := range 256 {
		if b == '\n' {
			continue
		}
		old, young := string([]byte{byte(b), 0xff, 0, '\n'}), string([]byte{0xfe, byte(b), '\n'})
		l = append(l, skip(b+1), keep(old), del(old), ins(young))
		want = append(want, skip(b+1), keep(old), del(young), ins(old))
	}
	wantBack(t, l, want)
}

// Many steps take no more than their number: each is looked at a few times.
func TestManySteps(t *testing.T) {
	const n = 200000
	long := strings.Repeat("x", 1<<22)
	for _, x := range []struct{ l, want []api.Op }{
		{slices.Repeat(steps(skip(1)), n), steps(skip(n))},
		{slices.Repeat(steps(keep("a\n")), n), slices.Repeat(steps(keep("a\n")), n)},
		{slices.Repeat(steps(ins("a\n")), n), slices.Repeat(steps(del("a\n")), n)},
		{slices.Repeat(steps(del("a\n")), n), slices.Repeat(steps(ins("a\n")), n)},
		{slices.Repeat(steps(del("a\n"), ins("b\n")), n), append(slices.Repeat(steps(del("b\n")), n), slices.Repeat(steps(ins("a\n")), n)...)},
		{slices.Repeat(steps(ins("a\n"), del("b\n"), skip(1), skip(1)), n), slices.Repeat(steps(del("a\n"), ins("b\n"), skip(2)), n)},
		{steps(ins(long)), steps(del(long))},
	} {
		got := flip.Ops(x.l)
		if !slices.Equal(got, x.want) {
			t.Errorf("P1001: Ops of %d steps: %d", len(x.l), len(got))
		}
		if !slices.Equal(flip.Ops(got), ops.Norm(x.l)) {
			t.Errorf("P1002: %d steps turned back twice are others than Norm", len(x.l))
		}
	}
}

package compose_test

import (
	"math"
	"slices"
	"strings"
	"testing"

	"patchwork/api"
	"patchwork/apply"
	"patchwork/compose"
	"patchwork/flip"
	"patchwork/ops"
)

// skip, keep, del, ins make steps, steps and file list them and lines.
func skip(n int) api.Op          { return api.Op{Kind: api.Skip, N: n} }
func keep(s string) api.Op       { return api.Op{Kind: api.Keep, Text: s} }
func del(s string) api.Op        { return api.Op{Kind: api.Del, Text: s} }
func ins(s string) api.Op        { return api.Op{Kind: api.Ins, Text: s} }
func steps(l ...api.Op) []api.Op { return l }
func file(l ...string) []string  { return l }

// wantBoth holds Then against what must come.
func wantBoth(t *testing.T, p, q, want []api.Op) {
	t.Helper()
	if got, ok := compose.Then(p, q); !ok || !slices.Equal(got, want) {
		t.Errorf("P1101: Then of %#v and %#v: %#v, %v; wanted %#v", p, q, got, ok, want)
	}
}

// wantNever holds that steps do not go together.
func wantNever(t *testing.T, p, q []api.Op) {
	t.Helper()
	if got, ok := compose.Then(p, q); ok || len(got) != 0 {
		t.Errorf("P1101: Then of %#v and %#v, which never go together: %#v, %v", p, q, got, ok)
	}
}

func TestNoneAndNone(t *testing.T) {
	nones := [][]api.Op{nil, {}, make([]api.Op, 0, 3), steps(del("a\n"), ins("b\n"))[:0]}
	for _, p := range nones {
		for _, q := range nones {
			wantBoth(t, p, q, nil)
		}
	}
}

// What has nothing behind it, or ahead, is as ops.Norm writes it.
func TestOneAlone(t *testing.T) {
	for _, x := range []struct{ l, want []api.Op }{
		{steps(skip(3)), steps(skip(3))},
		{steps(keep("a\n")), steps(keep("a\n"))},
		{steps(del("a\n")), steps(del("a\n"))},
		{steps(ins("a\n")), steps(ins("a\n"))},
		{steps(keep("z")), steps(keep("z"))},
		{steps(del("z")), steps(del("z"))},
		{steps(ins("z")), steps(ins("z"))},
		{steps(skip(1), skip(2), keep("a\n"), skip(3), skip(4)), steps(skip(3), keep("a\n"), skip(7))},
		{steps(ins("a\n"), del("b\n"), ins("c\n"), del("d\n")), steps(del("b\n"), del("d\n"), ins("a\n"), ins("c\n"))},
		{steps(ins("a\n"), skip(2), del("b\n"), keep("k\n"), del("z"), ins("y")), steps(ins("a\n"), skip(2), del("b\n"), keep("k\n"), del("z"), ins("y"))},
		{steps(skip(api.MaxNum-1), skip(1)), steps(skip(api.MaxNum))},
		{steps(del("a\n"), ins("a\n"), skip(api.MaxNum-1)), steps(del("a\n"), ins("a\n"), skip(api.MaxNum-1))},
	} {
		wantBoth(t, x.l, nil, x.want)
		wantBoth(t, nil, x.l, x.want)
	}
}

// Each thing that p does to a line of the middle meets each that q does to it.
func TestLinesOfTheMiddle(t *testing.T) {
	for _, a := range []string{"a\n", "a", "\n", "\x00", "\xff\n", "\r\n", strings.Repeat("x", 1000) + "\n"} {
		wantBoth(t, steps(skip(1)), steps(skip(1)), steps(skip(1)))
		wantBoth(t, steps(skip(1)), steps(keep(a)), steps(keep(a)))
		wantBoth(t, steps(skip(1)), steps(del(a)), steps(del(a)))
		wantBoth(t, steps(keep(a)), steps(skip(1)), steps(keep(a)))
		wantBoth(t, steps(keep(a)), steps(keep(a)), steps(keep(a)))
		wantBoth(t, steps(keep(a)), steps(del(a)), steps(del(a)))
		wantBoth(t, steps(ins(a)), steps(skip(1)), steps(ins(a)))
		wantBoth(t, steps(ins(a)), steps(keep(a)), steps(ins(a)))
		wantBoth(t, steps(ins(a)), steps(del(a)), nil)
		for _, other := range []string{"b\n", "b", "aa\n", "a\r\n", "A\n", " a\n", strings.Repeat("x", 999) + "y\n"} {
			for _, p := range steps(keep(a), ins(a)) {
				for _, q := range steps(keep(other), del(other)) {
					wantNever(t, steps(p), steps(q))
				}
			}
		}
	}
	// A line is another one, if one is open and one is not.
	for _, x := range [][2]string{{"a\n", "a"}, {"a", "a\n"}} {
		for _, p := range steps(keep(x[0]), ins(x[0])) {
			for _, q := range steps(keep(x[1]), del(x[1])) {
				wantNever(t, steps(p), steps(q))
			}
		}
	}
}

// What p takes and q brings are no lines of the middle: they need not be the same, and come where they stand.
func TestWhatOneDoesAlone(t *testing.T) {
	for _, x := range []struct{ p, q, want []api.Op }{
		{steps(del("a\n")), steps(ins("b\n")), steps(del("a\n"), ins("b\n"))},
		{steps(del("a\n")), steps(ins("a\n")), steps(del("a\n"), ins("a\n"))},
		{steps(del("a\n")), steps(del("b\n")), steps(del("a\n"), del("b\n"))},
		{steps(ins("a\n")), steps(ins("b\n")), steps(ins("b\n"), ins("a\n"))},
		{steps(ins("a\n")), steps(skip(1), ins("b\n")), steps(ins("a\n"), ins("b\n"))},
		{steps(ins("a\n"), ins("c\n")), steps(skip(1), ins("b\n")), steps(ins("a\n"), ins("b\n"), ins("c\n"))},
		{steps(ins("a\n"), ins("c\n")), steps(del("a\n"), ins("b\n")), steps(ins("b\n"), ins("c\n"))},
		{steps(del("a\n")), steps(ins("b\n"), skip(1)), steps(del("a\n"), ins("b\n"), skip(1))},
		{steps(del("a\n")), steps(skip(1), ins("b\n")), steps(del("a\n"), skip(1), ins("b\n"))},
		{steps(skip(1), del("a\n")), steps(ins("b\n")), steps(ins("b\n"), skip(1), del("a\n"))},
		{steps(skip(1), del("a\n")), steps(skip(1), ins("b\n")), steps(skip(1), del("a\n"), ins("b\n"))},
		{steps(skip(1), del("a\n"), skip(1)), steps(skip(1), ins("b\n"), skip(1)), steps(skip(1), del("a\n"), ins("b\n"), skip(1))},
		{steps(skip(1), del("a\n")), steps(skip(2), ins("b\n")), steps(skip(1), del("a\n"), skip(1), ins("b\n"))},
		{steps(skip(2), del("a\n")), steps(skip(1), ins("b\n")), steps(skip(1), ins("b\n"), skip(1), del("a\n"))},
		{steps(del("1\n"), del("2\n"), skip(1), del("3\n")), steps(ins("4\n"), ins("5\n"), del("6\n"), ins("7\n")), steps(del("1\n"), del("2\n"), del("6\n"), del("3\n"), ins("4\n"), ins("5\n"), ins("7\n"))},
		// A row of p's with a row of q's on it
		{steps(del("1\n"), ins("2\n")), steps(del("2\n"), ins("3\n")), steps(del("1\n"), ins("3\n"))},
		{steps(ins("2\n"), del("1\n")), steps(ins("3\n"), del("2\n")), steps(del("1\n"), ins("3\n"))},
		{steps(keep("k\n"), del("1\n"), ins("2\n"), ins("3\n"), keep("l\n")), steps(keep("k\n"), del("2\n"), ins("4\n"), keep("3\n"), keep("l\n")), steps(keep("k\n"), del("1\n"), ins("4\n"), ins("3\n"), keep("l\n"))},
		{steps(del("1\n"), ins("2\n"), keep("k\n"), del("3\n")), steps(del("2\n"), del("k\n"), ins("4\n")), steps(del("1\n"), del("k\n"), del("3\n"), ins("4\n"))},
		// What came and went again leaves what is beside it side by side.
		{steps(skip(1), ins("a\n"), skip(2)), steps(skip(1), del("a\n")), steps(skip(3))},
		{steps(ins("1\n"), ins("2\n"), ins("3\n")), steps(skip(1), del("2\n")), steps(ins("1\n"), ins("3\n"))},
		{steps(ins("1\n"), ins("2\n"), ins("3\n")), steps(del("1\n"), del("2\n"), del("3\n")), nil},
		{steps(del("0\n"), ins("1\n"), del("2\n")), steps(del("1\n"), del("3\n")), steps(del("0\n"), del("2\n"), del("3\n"))},
	} {
		wantBoth(t, x.p, x.q, x.want)
	}
}

func TestSkipsOfSeveralLines(t *testing.T) {
	a, b, x := "a\n", "b\n", "x\n"
	for _, y := range []struct{ p, q, want []api.Op }{
		{steps(skip(3)), steps(skip(5)), steps(skip(5))},
		{steps(skip(5)), steps(skip(3)), steps(skip(5))},
		{steps(skip(2), skip(3)), steps(skip(4), skip(4)), steps(skip(8))},
		{steps(skip(5)), steps(skip(2), del(x), skip(4)), steps(skip(2), del(x), skip(4))},
		{steps(skip(5)), steps(skip(2), keep(x)), steps(skip(2), keep(x), skip(2))},
		{steps(skip(5)), steps(skip(2), ins(x)), steps(skip(2), ins(x), skip(3))},
		{steps(skip(5)), steps(skip(5), ins(x)), steps(skip(5), ins(x))},
		{steps(skip(5)), steps(skip(6), ins(x)), steps(skip(6), ins(x))},
		{steps(skip(2), keep(x)), steps(skip(5)), steps(skip(2), keep(x), skip(2))},
		{steps(skip(2), ins(x)), steps(skip(5)), steps(skip(2), ins(x), skip(2))},
		{steps(skip(2), del(x)), steps(skip(5)), steps(skip(2), del(x), skip(3))},
		{steps(skip(2), ins(x), skip(2)), steps(skip(1), del(a), del(x), del(b)), steps(skip(1), del(a), del(b), skip(1))},
		{steps(keep(a), skip(3), keep(b)), steps(skip(1), keep(x), skip(1), keep(x), keep(b), keep(a)), steps(keep(a), keep(x), skip(1), keep(x), keep(b), keep(a))},
		{steps(ins(a), ins(b), ins(x)), steps(skip(2), del(x)), steps(ins(a), ins(b))},
		{steps(skip(1), keep(a), skip(1), keep(b)), steps(skip(9), ins(x)), steps(skip(1), keep(a), skip(1), keep(b), skip(5), ins(x))},
		{steps(skip(9), ins(x)), steps(skip(1), keep(a), skip(1), keep(b)), steps(skip(1), keep(a), skip(1), keep(b), skip(5), ins(x))},
		{steps(skip(9), ins(x)), steps(skip(1), keep(a), skip(7), keep(x)), steps(skip(1), keep(a), skip(7), ins(x))},
	} {
		wantBoth(t, y.p, y.q, y.want)
	}
	// One line further, it is another one.
	wantNever(t, steps(skip(9), ins(x), keep(a)), steps(skip(10), keep(x)))
	wantNever(t, steps(skip(9), keep(x), keep(a)), steps(skip(3), del(b), skip(6), keep(x)))
}

// Behind an open line the middle has none.
func TestOpenLinesOfTheMiddle(t *testing.T) {
	a, b := "a\n", "b\n"
	for _, x := range []struct{ p, q []api.Op }{
		// p knows it
		{steps(keep("z")), steps(skip(2))},
		{steps(keep("z")), steps(skip(1), skip(1))},
		{steps(keep("z")), steps(skip(1), keep(a))},
		{steps(keep("z")), steps(skip(1), del(a))},
		{steps(ins("z")), steps(skip(2))},
		{steps(ins("z")), steps(skip(1), keep(a))},
		{steps(ins("z")), steps(skip(1), del(a))},
		{steps(skip(1), del(b), ins("z")), steps(skip(2), del(a))},
		{steps(ins("z"), del(b)), steps(skip(1), del(a))},
		{steps(ins("z")), steps(skip(1), del("y"))},
		{steps(ins("z")), steps(ins(a), skip(1), del(b))},
		// q knows it
		{steps(skip(2)), steps(keep("z"))},
		{steps(skip(2)), steps(del("z"))},
		{steps(skip(1), skip(1)), steps(del("z"))},
		{steps(skip(1), keep(a)), steps(keep("z"))},
		{steps(skip(1), keep(a)), steps(del("z"))},
		{steps(skip(1), ins(a)), steps(keep("z"))},
		{steps(skip(1), ins(a)), steps(del("z"))},
		{steps(skip(1), ins(a)), steps(del("z"), ins(b))},
		{steps(skip(1), del(b), ins(a)), steps(del("z"))},
		{steps(skip(3), ins(a)), steps(skip(2), del("z"))},
		{steps(skip(1), ins("y")), steps(del("z"))},
	} {
		wantNever(t, x.p, x.q)
	}
	for _, x := range []struct{ p, q, want []api.Op }{
		{steps(keep("z")), steps(skip(1)), steps(keep("z"))},
		{steps(keep("z")), steps(del("z")), steps(del("z"))},
		{steps(keep("z")), steps(ins(a)), steps(ins(a), keep("z"))},
		{steps(keep("z")), steps(del("z"), ins("y")), steps(del("z"), ins("y"))},
		{steps(ins("z")), steps(skip(1)), steps(ins("z"))},
		{steps(ins("z")), steps(ins(a), keep("z")), steps(ins(a), ins("z"))},
		{steps(ins("z")), steps(del("z"), ins(a), ins("y")), steps(ins(a), ins("y"))},
		{steps(ins("z"), del(a)), steps(del("z"), ins(b)), steps(del(a), ins(b))},
		{steps(ins("z"), del(a), del("y")), steps(del("z")), steps(del(a), del("y"))},
		{steps(del("z"), ins(a)), steps(del(a), ins("z")), steps(del("z"), ins("z"))},
		{steps(del("z")), steps(ins("y")), steps(del("z"), ins("y"))},
		{steps(skip(1)), steps(del("z"), ins(a), ins("y")), steps(del("z"), ins(a), ins("y"))},
		{steps(ins(a), skip(1)), steps(del(a), keep("z")), steps(keep("z"))},
		{steps(skip(1), ins("z")), steps(skip(1), del("z")), steps(skip(1))},
		// A line that p takes is none of the middle.
		{steps(ins("z"), del(a), del(b)), steps(skip(1)), steps(del(a), del(b), ins("z"))},
		// Nor is one that q brings.
		{steps(ins("z")), steps(ins(a), ins(b), del("z")), steps(ins(a), ins(b))},
	} {
		wantBoth(t, x.p, x.q, x.want)
	}
}

// What comes of both can be wrong where the middle is not.
func TestWhatComesIsNotRight(t *testing.T) {
	a, b := "a\n", "b\n"
	for _, x := range []struct{ p, q []api.Op }{
		// behind an open line of the old side
		{steps(del("z")), steps(skip(1))},
		{steps(del("z")), steps(keep(a))},
		{steps(del("z")), steps(del(a))},
		{steps(del("z"), ins(a)), steps(skip(2))},
		{steps(del("z"), ins(a)), steps(del(a), del(b))},
		{steps(skip(1), del(b)), steps(keep("z"))},
		{steps(skip(1), del(b)), steps(del("z"))},
		{steps(skip(1), del("y")), steps(del("z"))},
		// behind an open line of the new side
		{steps(keep(a)), steps(ins("z"))},
		{steps(skip(1)), steps(ins("z"))},
		{steps(ins(a)), steps(ins("z"))},
		{steps(ins(a), ins(b)), steps(del(a), ins("z"))},
		{steps(keep("y")), steps(ins("z"))},
		{steps(keep("z")), steps(skip(1), ins(a))},
		{steps(ins("z")), steps(skip(1), ins(a))},
		{steps(ins("z")), steps(skip(1), ins("y"))},
		{steps(skip(1), keep(b)), steps(del(a), ins("z"))},
	} {
		wantNever(t, x.p, x.q)
	}
}

func TestLongSides(t *testing.T) {
	const most = api.MaxNum
	a, b := "a\n", "b\n"
	for _, x := range []struct{ p, q, want []api.Op }{
		{steps(skip(most)), nil, steps(skip(most))},
		{nil, steps(skip(most)), steps(skip(most))},
		{steps(skip(most)), steps(skip(most)), steps(skip(most))},
		{steps(skip(most)), steps(skip(1)), steps(skip(most))},
		{steps(skip(1)), steps(skip(most)), steps(skip(most))},
		{steps(skip(most-1), keep(a)), steps(skip(most)), steps(skip(most-1), keep(a))},
		{steps(skip(most)), steps(skip(most-1), keep("z")), steps(skip(most-1), keep("z"))},
		{steps(skip(most)), steps(skip(most-1), del(a)), steps(skip(most-1), del(a))},
		{steps(skip(most)), steps(del(a), skip(most-1)), steps(del(a), skip(most-1))},
		{steps(skip(most)), steps(del(a), ins(b)), steps(del(a), ins(b), skip(most-1))},
		{steps(del(a)), steps(skip(most - 1)), steps(del(a), skip(most-1))},
		{steps(del(a), ins(b)), steps(skip(most)), steps(del(a), ins(b), skip(most-1))},
		{steps(ins(a)), steps(skip(most)), steps(ins(a), skip(most-1))},
		{steps(ins(a), skip(most-1)), steps(skip(most-1), del(b)), steps(ins(a), skip(most-2), del(b))},
		{steps(ins(a), skip(most-1)), steps(del(a), ins(b)), steps(ins(b), skip(most-1))},
		{steps(ins(a), skip(most-1)), steps(del(a), skip(most-1)), steps(skip(most - 1))},
		{steps(skip(most-1), ins("z")), steps(del(a), skip(most-2), del("z")), steps(del(a), skip(most-2))},
		{steps(skip(1<<30), ins(a), skip(1<<30-1)), steps(skip(1<<30), del(a)), steps(skip(most - 1))},
		{steps(skip(1<<30), del(a), skip(1<<30-1)), steps(skip(1<<30), ins(a)), steps(skip(1<<30), del(a), ins(a), skip(1<<30-1))},
		{slices.Repeat(steps(skip(1<<16)), 1<<15), steps(skip(most)), steps(skip(most))},
		{slices.Repeat(steps(skip(1<<16)), 1<<15), slices.Repeat(steps(skip(1<<15)), 1<<16), steps(skip(most))},
	} {
		wantBoth(t, x.p, x.q, x.want)
	}
	for _, x := range []struct{ p, q []api.Op }{
		// The old side is too long.
		{steps(del(a)), steps(skip(most))},
		{steps(del(a), del(b)), steps(skip(most - 1))},
		{steps(del(a)), steps(skip(most-1), del(a))},
		{steps(skip(1), del(a)), steps(keep(a), skip(most-1))},
		{steps(skip(most-1), del(a)), steps(skip(most))},
		{slices.Repeat(steps(del(a)), 5000), steps(skip(most))},
		// The new side is.
		{steps(skip(most)), steps(ins(a))},
		{steps(ins(a)), steps(ins(b), skip(most))},
		{steps(skip(most-1), ins(a)), steps(skip(most), ins(a))},
		{steps(keep(a), skip(most-1)), steps(skip(1), ins(a))},
		{steps(skip(most)), steps(del(a), ins(b), ins(b))},
		{steps(skip(most)), slices.Repeat(steps(ins(a)), 5000)},
		// Both are.
		{steps(del(a), skip(most-1)), steps(skip(most), ins(a))},
		{steps(del(a), skip(most-1)), steps(ins(a), skip(most))},
	} {
		wantNever(t, x.p, x.q)
	}
}

// wrong lists steps that can't be, whatever stands beside them.
func wrong() []api.Op {
	out := steps(
		skip(0), skip(-1), skip(api.MaxNum+1), skip(1<<32+1), skip(math.MaxInt), skip(math.MinInt),
		api.Op{Kind: api.Skip, N: 1, Text: "a\n"}, api.Op{Kind: api.Skip, N: 1, Text: "\x00"},
	)
	for _, kind := range []int{api.Keep, api.Del, api.Ins} {
		for _, text := range []string{"", "\n\n", "\na", "a\nb", "a\nb\n", "a\n\n"} {
			out = append(out, api.Op{Kind: kind, Text: text})
		}
		for _, n := range []int{1, -1, api.MaxNum, 1 << 32, math.MaxInt, math.MinInt} {
			out = append(out, api.Op{Kind: kind, N: n, Text: "a\n"})
		}
	}
	for _, kind := range []int{0, -1, 5, -api.Del, -api.Ins, 1<<8 + api.Del, 1<<32 + api.Ins, 1<<32 + api.Skip, math.MaxInt, math.MinInt} {
		out = append(out, api.Op{Kind: kind}, api.Op{Kind: kind, N: 1}, api.Op{Kind: kind, Text: "a\n"})
	}
	return out
}

// wantWrong holds that steps that are not ops.Right go together with none, ahead of them or behind.
func wantWrong(t *testing.T, l ...api.Op) {
	t.Helper()
	if ops.Right(l) {
		t.Errorf("%#v is right: no test of what is not", l)
	}
	for _, other := range [][]api.Op{nil, {skip(1)}, {ins("i\n")}, {del("a\n"), ins("b\n")}, {skip(api.MaxNum)}, l} {
		wantNever(t, l, other)
		wantNever(t, other, l)
	}
}

// A step that is wrong is found wherever it stands.
func TestStepsThatAreWrongAlone(t *testing.T) {
	all := steps(skip(2), keep("a\n"), del("b\n"), ins("c\n"), skip(1), ins("d\n"), del("e\n"), keep("f\n"))
	for _, w := range wrong() {
		wantWrong(t, w)
		for i := 0; i <= len(all); i++ {
			wantWrong(t, slices.Insert(slices.Clone(all), i, w)...)
		}
	}
}

func TestStepsThatAreWrongTogether(t *testing.T) {
	const most = api.MaxNum
	a := "a\n"
	for _, behind := range steps(skip(1), keep(a), keep("z"), del(a), del("z"), ins(a), ins("z")) {
		wantWrong(t, keep("z"), behind)
		if behind.Kind != api.Ins {
			wantWrong(t, del("z"), behind)
			wantWrong(t, del("z"), ins(a), behind)
		}
		if behind.Kind != api.Del {
			wantWrong(t, ins("z"), behind)
			wantWrong(t, ins("z"), del(a), behind)
		}
	}
	for _, l := range [][]api.Op{
		{skip(most), skip(1)},
		{skip(most), keep(a)},
		{skip(most), del(a)},
		{skip(most), ins(a)},
		{del(a), ins(a), skip(most - 1), del(a)},
		{ins(a), skip(most - 1), ins(a)},
		slices.Repeat(steps(skip(most)), 2),
		slices.Repeat(steps(skip(most)), 1<<10),
	} {
		wantWrong(t, l...)
	}
	// Too long a new side of p, or old side of q, is wrong, though the other would mend it.
	wantNever(t, steps(skip(most), ins(a)), steps(del("b\n")))
	wantNever(t, steps(ins(a)), steps(del(a), skip(most)))
}

func TestRest(t *testing.T) {
	a, b := "a\n", "b\n"
	for _, x := range []struct{ l, want []api.Op }{
		{nil, nil},
		{steps(), nil},
		{steps(skip(1)), nil},
		{steps(skip(1), skip(2), skip(api.MaxNum)), nil},
		{steps(keep(a)), steps(keep(a))},
		{steps(del(a)), steps(del(a))},
		{steps(ins("z")), steps(ins("z"))},
		{steps(keep(a), skip(1)), steps(keep(a))},
		{steps(del(a), skip(1)), steps(del(a))},
		{steps(ins(a), skip(1)), steps(ins(a))},
		{steps(ins(a), skip(1), skip(2)), steps(ins(a))},
		{steps(skip(1), del(a)), steps(skip(1), del(a))},
		{steps(skip(1), del(a), skip(2), ins(b), skip(3)), steps(skip(1), del(a), skip(2), ins(b))},
		{steps(skip(1), skip(2), keep(a), skip(3), skip(4), keep(b), skip(5), skip(6)), steps(skip(1), skip(2), keep(a), skip(3), skip(4), keep(b))},
		{steps(ins(a), del(b), skip(api.MaxNum-1)), steps(ins(a), del(b))},
		{slices.Repeat(steps(skip(1)), 200000), nil},
		{append(steps(keep(a)), slices.Repeat(steps(skip(1)), 200000)...), steps(keep(a))},
		{append(slices.Repeat(steps(skip(1)), 200000), keep(a)), append(slices.Repeat(steps(skip(1)), 200000), keep(a))},
	} {
		if got := compose.Rest(x.l); !slices.Equal(got, x.want) {
			t.Errorf("P1102: Rest of %#v: %#v; wanted %#v", x.l, got, x.want)
		}
	}
}

// Rest asks of no step whether it is right, and leaves what is no Skip as it is.
func TestRestOfStepsThatAreNotRight(t *testing.T) {
	for _, w := range wrong() {
		var want []api.Op
		if w.Kind != api.Skip {
			want = steps(w)
		}
		for _, behind := range [][]api.Op{nil, {skip(1)}, {skip(1), skip(-1), skip(math.MinInt)}} {
			if got := compose.Rest(append(steps(w), behind...)); !slices.Equal(got, want) {
				t.Errorf("P1102: Rest of %#v and %#v: %#v", w, behind, got)
			}
		}
		if got, want := compose.Rest(steps(w, keep("z"), w, ins("a\n"), skip(1))), steps(w, keep("z"), w, ins("a\n")); !slices.Equal(got, want) {
			t.Errorf("P1102: Rest behind %#v: %#v; wanted %#v", w, got, want)
		}
	}
}

// wantDone holds that what comes of both makes new lines of old ones, as both do one behind the other.
func wantDone(t *testing.T, p, q []api.Op, old, young []string) {
	t.Helper()
	between, _ := apply.Do(p, old)
	if got, ok := apply.Do(q, between); !ok || !slices.Equal(got, young) {
		t.Errorf("%#v and %#v done to %q: %q, %v; wanted %q", p, q, old, got, ok, young)
	}
	l, ok := compose.Then(p, q)
	if got, is := apply.Do(l, old); !ok || !is || !slices.Equal(got, young) {
		t.Errorf("P1102: Then of %#v and %#v: %#v, %v; done to %q: %q, %v; wanted %q", p, q, l, ok, old, got, is, young)
	}
	if got, is := apply.Do(compose.Rest(l), old); !is || !slices.Equal(got, young) {
		t.Errorf("P1102: Rest of %#v done to %q: %q, %v; wanted %q", l, old, got, is, young)
	}
}

func TestWhatBothDo(t *testing.T) {
	abc, abz := file("a\n", "b\n", "c\n"), file("a\n", "b\n", "z")
	for _, x := range []struct {
		p, q       []api.Op
		old, young []string
	}{
		{nil, nil, nil, nil},
		{nil, nil, abz, abz},
		{steps(skip(1), del("b\n")), nil, abc, file("a\n", "c\n")},
		{nil, steps(skip(1), del("b\n")), abc, file("a\n", "c\n")},
		{steps(skip(1), del("b\n")), steps(del("a\n")), abc, file("c\n")},
		{steps(skip(1), del("b\n")), steps(skip(1), del("c\n")), abc, file("a\n")},
		{steps(skip(1), del("b\n")), steps(skip(2), ins("d\n")), abc, file("a\n", "c\n", "d\n")},
		{steps(skip(1), del("b\n"), ins("x\n")), steps(skip(1), del("x\n"), ins("y\n")), abz, file("a\n", "y\n", "z")},
		{steps(skip(3), ins("d\n")), steps(ins("0\n"), skip(3), keep("d\n"), ins("e")), abc, file("0\n", "a\n", "b\n", "c\n", "d\n", "e")},
		{steps(skip(2), del("z"), ins("z\n")), steps(skip(2), keep("z\n"), ins("y")), abz, file("a\n", "b\n", "z\n", "y")},
		{steps(skip(2), del("c\n"), ins("c")), steps(skip(2), del("c")), abc, file("a\n", "b\n")},
		{steps(skip(2), del("c\n"), ins("c")), steps(skip(1), del("b\n"), skip(1)), abc, file("a\n", "c")},
		{steps(ins("x")), steps(ins("w\n")), nil, file("w\n", "x")},
		{steps(ins("x")), steps(del("x")), nil, nil},
		{steps(del("a\n"), del("b\n"), del("z")), steps(ins("x")), abz, file("x")},
		{steps(del("a\n"), del("b\n"), del("z"), ins("x")), steps(del("x"), ins("a\n"), ins("z")), abz, file("a\n", "z")},
	} {
		wantDone(t, x.p, x.q, x.old, x.young)
		// And back.
		wantDone(t, flip.Ops(x.q), flip.Ops(x.p), x.young, x.old)
	}
}

func TestAnyBytes(t *testing.T) {
	var p, q, want []api.Op
	for b := range 256 {
		if b == '\n' {
			continue
		}
		old, young := string([]byte{byte(b), 0xff, 0, '\n'}), string([]byte{0xfe, byte(b), '\n'})
		p = append(p, skip(b+1), keep(old), del(old), ins(young), ins(old))
		q = append(q, skip(b+1), del(old), keep(young), del(old), ins(young))
		want = append(want, skip(b+1), del(old), del(old), ins(young), ins(young))
	}
	wantBoth(t, p, q, want)
	for b := range 256 {
		for other := range 256 {
			if b != other && b != '\n' && other != '\n' {
				wantNever(t, steps(ins("x"+string([]byte{byte(b)})+"y\n")), steps(del("x"+string([]byte{byte(other)})+"y\n")))
			}
		}
	}
}

// Many steps take no more than their number: each is looked at a few times.
func TestManySteps(t *testing.T) {
	const n = 200000
	long := strings.Repeat("x", 1<<22)
	many := func(l ...api.Op) []api.Op { return slices.Repeat(l, n) }
	for i, x := range []struct{ p, q, want []api.Op }{
		{many(skip(1)), nil, steps(skip(n))},
		{many(skip(1)), steps(skip(n)), steps(skip(n))},
		{steps(skip(n)), many(skip(1)), steps(skip(n))},
		{many(skip(1)), many(del("a\n")), many(del("a\n"))},
		{many(keep("a\n")), many(del("a\n")), many(del("a\n"))},
		{many(ins("a\n")), many(del("a\n")), nil},
		{many(ins("a\n")), many(keep("a\n")), many(ins("a\n"))},
		{many(ins("a\n")), many(ins("b\n")), append(many(ins("b\n")), many(ins("a\n"))...)},
		{many(del("a\n")), many(ins("b\n")), append(many(del("a\n")), many(ins("b\n"))...)},
		{many(del("a\n")), many(del("b\n")), append(many(del("a\n")), many(del("b\n"))...)},
		{many(del("a\n"), ins("b\n"), skip(1)), many(del("b\n"), ins("c\n"), skip(1)), many(del("a\n"), ins("c\n"), skip(1))},
		{many(skip(2), ins("b\n")), steps(skip(3*n/2), ins("c\n")), slices.Insert(many(skip(2), ins("b\n")), n, ins("c\n"))},
		{steps(ins(long)), steps(keep(long)), steps(ins(long))},
	} {
		got, ok := compose.Then(x.p, x.q)
		if !ok || !slices.Equal(got, x.want) {
			t.Errorf("P1101: Then %d of %d steps and %d: %d, %v", i, len(x.p), len(x.q), len(got), ok)
		}
	}
}

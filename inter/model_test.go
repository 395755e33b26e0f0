package inter_test

import (
	"math"
	"math/rand/v2"
	"slices"
	"strings"
	"testing"

	"patchwork/api"
	"patchwork/apply"
	"patchwork/compose"
	"patchwork/flip"
	"patchwork/inter"
	"patchwork/ops"
	"patchwork/tidy"
)

// slowOps reckons by the words of the chapter.
func slowOps(p, q []api.Op) ([]api.Op, bool) {
	if !ops.Right(p) || !ops.Right(q) {
		return nil, false
	}
	l, ok := compose.Then(flip.Ops(p), q)
	return tidy.Ops(l), ok
}

// stays answers steps that let all stay that l makes; none, if l is not right.
func stays(l []api.Op) []api.Op {
	if !ops.Right(l) {
		return nil
	}
	var out []api.Op
	for _, o := range l {
		if o.Kind == api.Ins {
			o.Kind = api.Keep
		}
		if o.Kind != api.Del {
			out = append(out, o)
		}
	}
	return ops.Norm(out)
}

// olds lists what steps know of the lines of the old side; of the others nothing.
func olds(l []api.Op) []string {
	var out []string
	for _, o := range l {
		switch o.Kind {
		case api.Skip:
			out = append(out, make([]string, o.N)...)
		case api.Keep, api.Del:
			out = append(out, o.Text)
		}
	}
	return out
}

// common answers lines to which both can be done, or false. Lines that none of both knows can be any, and more of them than need be are of no help.
func common(p, q []api.Op) ([]string, bool) {
	one, other := olds(p), olds(q)
	if len(one) < len(other) {
		one, other = other, one
	}
	for i, line := range other {
		if one[i] == "" {
			one[i] = line
		}
	}
	for i, line := range one {
		if line == "" {
			one[i] = "unknown\n"
		}
	}
	return one, apply.Fits(p, one) && apply.Fits(q, one)
}

// hold holds Ops against the slow one, and against what follows from it; Skips must be few. It tells whether both can be done to some lines.
func hold(t *testing.T, p, q []api.Op) bool {
	t.Helper()
	got, ok := inter.Ops(p, q)
	want, is := slowOps(p, q)
	if ok != is || !slices.Equal(got, want) {
		t.Errorf("P1401: Ops of %#v and %#v: %#v, %v; wanted %#v, %v", p, q, got, ok, want, is)
	}
	if !slices.Equal(tidy.Ops(got), got) {
		t.Errorf("P1401: Ops of %#v and %#v: %#v is not tidied", p, q, got)
	}
	if !ops.Right(p) || !ops.Right(q) {
		return false
	}
	old, ever := common(p, q)
	if ok != ever {
		t.Errorf("P1402: Ops of %#v and %#v is %v; that both can be done to %q is %v", p, q, ok, old, ever)
	}
	if ever && !leads(t, p, q, old) {
		t.Errorf("%#v and %#v can't be done to %q: no test of what can", p, q, old)
	}
	return ever
}

// leads holds, where both can be done to old, that Ops leads from what p makes to what q makes; it tells whether both can.
func leads(t *testing.T, p, q []api.Op, old []string) bool {
	t.Helper()
	one, first := apply.Do(p, old)
	two, second := apply.Do(q, old)
	if !first || !second {
		return false
	}
	l, ok := inter.Ops(p, q)
	if got, is := apply.Do(l, one); !ok || !is || !slices.Equal(got, two) {
		t.Errorf("P1402: Ops of %#v and %#v: %#v, %v; done to %q: %q, %v; wanted %q", p, q, l, ok, one, got, is, two)
	}
	return true
}

// holdItself holds that between p and p all stays.
func holdItself(t *testing.T, p []api.Op) {
	t.Helper()
	got, ok := inter.Ops(p, p)
	if ok != ops.Right(p) || !slices.Equal(got, stays(p)) || !tidy.Idle(got) {
		t.Errorf("P1402: Ops of %#v and itself: %#v, %v", p, got, ok)
	}
}

// lists answers every list of up to most of the things in of.
func lists[T any](of []T, most int) [][]T {
	out := [][]T{nil}
	for from := 0; most > 0; most-- {
		upTo := len(out)
		for _, l := range out[from:upTo] {
			for _, one := range of {
				out = append(out, append(slices.Clip(l), one))
			}
		}
		from = upTo
	}
	return out
}

// right answers those lists that are ops.Right.
func right(all [][]api.Op) [][]api.Op {
	return slices.DeleteFunc(all, func(l []api.Op) bool { return !ops.Right(l) })
}

func TestAllShortListsAndThemselves(t *testing.T) {
	for _, x := range []struct {
		of   []api.Op
		most int
	}{
		{steps(skip(1), skip(2), keep("a\n"), keep("z"), del("a\n"), del("z"), ins("a\n"), ins("z"), skip(0)), 4},
		{steps(skip(1), keep("a\n"), del("a\n"), del("b\n"), ins("a\n"), ins("b\n")), 5},
	} {
		for _, l := range lists(x.of, x.most) {
			holdItself(t, l)
			hold(t, l, nil)
			hold(t, nil, l)
		}
	}
}

// Every short p meets every short q, and every file that is long enough to tell whether both can ever be done.
func TestAllShortPairsAndTheirFiles(t *testing.T) {
	kinds := steps(skip(1), keep("a\n"), keep("b\n"), keep("z"), del("a\n"), del("b\n"), del("z"), ins("a\n"), ins("b\n"), ins("z"))
	few, more := right(lists(kinds, 2)), right(lists(kinds, 3))
	var files [][]string
	for _, l := range lists(file("a\n", "b\n", "z"), 4) {
		if !slices.Contains(l[:max(len(l)-1, 0)], "z") {
			files = append(files, l)
		}
	}
	yes, no := 0, 0
	for _, x := range [][2][][]api.Op{{few, more}, {more, few}} {
		for _, p := range x[0] {
			fit := slices.DeleteFunc(slices.Clone(files), func(l []string) bool { return !apply.Fits(p, l) })
			for _, q := range x[1] {
				ever := false
				for _, old := range fit {
					ever = leads(t, p, q, old) || ever
				}
				if hold(t, p, q) != ever {
					t.Errorf("P1402: that %#v and %#v can be done to some file is %v", p, q, ever)
				}
				if ever {
					yes++
				} else {
					no++
				}
			}
		}
	}
	if yes < 20000 || no < 20000 {
		t.Errorf("P1402: %d pairs go together, %d do not: too few of one sort to tell anything", yes, no)
	}
}

// With Skips of several lines, that end at other places in p than in q.
func TestAllShortPairsWithLongerSkips(t *testing.T) {
	l := lists(steps(skip(1), skip(2), skip(3), keep("a\n"), del("a\n"), ins("a\n"), ins("z"), del("z")), 3)
	for _, p := range l {
		for _, q := range l {
			hold(t, p, q)
		}
	}
}

func TestAllShortPairsWithWrongSteps(t *testing.T) {
	l := lists(steps(
		skip(0), skip(1), skip(-1), skip(api.MaxNum+1), skip(math.MaxInt), skip(math.MinInt),
		keep("k\n"), del("k\n"), ins("k\n"), del("y"), ins("y"), keep(""), del("a\nb"), ins("\n\n"),
		api.Op{}, api.Op{Kind: 5, N: 1, Text: "a\n"}, api.Op{Kind: api.Skip, N: 1, Text: "a\n"}, api.Op{Kind: api.Del, N: 1, Text: "a\n"}, api.Op{Kind: api.Ins, N: -1, Text: "a\n"},
	), 2)
	for _, p := range l {
		holdItself(t, p)
		for _, q := range l {
			hold(t, p, q)
		}
	}
}

// fileByChance makes lines of a file.
func fileByChance(c *rand.Rand, n int) []string {
	var out []string
	for range n {
		out = append(out, strings.Repeat("x", c.IntN(2))+string(rune('a'+c.IntN(3)))+"\n")
	}
	if n > 0 && c.IntN(3) == 0 {
		out[n-1] = strings.TrimSuffix(out[n-1], "\n")
	}
	return out
}

// stepsByChance makes steps that can be done to these lines.
func stepsByChance(c *rand.Rand, old []string) []api.Op {
	var l []api.Op
	last := "\n" // the last line of the new side
	for c.IntN(20) > 0 && strings.HasSuffix(last, "\n") {
		switch n := c.IntN(4); {
		case n == 0:
			last = fileByChance(c, 1)[0]
			if len(old) > 0 {
				last = strings.TrimSuffix(last, "\n") + "\n"
			}
			l = append(l, ins(last))
		case len(old) == 0:
		case n == 1:
			many := 1 + c.IntN(len(old))
			last = old[many-1]
			l, old = append(l, skip(many)), old[many:]
		case n == 2:
			last = old[0]
			l, old = append(l, keep(last)), old[1:]
		default:
			l, old = append(l, del(old[0])), old[1:]
		}
	}
	return l
}

// turn turns one step into something else.
func turn(c *rand.Rand, l []api.Op) []api.Op {
	out := slices.Clone(l)
	if len(out) == 0 {
		return out
	}
	i := c.IntN(len(out))
	switch c.IntN(6) {
	case 0:
		return slices.Delete(out, i, i+1)
	case 1:
		return slices.Insert(out, i, out[i])
	case 2:
		out[i].N += c.IntN(5) - 2
	case 3:
		out[i].Kind += c.IntN(5) - 2
	case 4:
		out[i].Text = strings.TrimSuffix(out[i].Text, "\n")
	default:
		out[i].Text = fileByChance(c, 1)[0]
	}
	return out
}

func TestPairsByChance(t *testing.T) {
	c := rand.New(rand.NewPCG(14, 1))
	const times = 15000
	together, never := 0, 0
	for range times {
		old := fileByChance(c, c.IntN(16))
		p, q := stepsByChance(c, old), stepsByChance(c, old)
		hold(t, p, q)
		holdItself(t, p)
		if !leads(t, p, q, old) {
			t.Fatalf("%#v and %#v can't be done to %q: no test of what can", p, q, old)
		}
		for _, other := range [][2][]api.Op{{turn(c, p), q}, {p, turn(c, q)}, {p, turn(c, p)}, {p, stepsByChance(c, fileByChance(c, c.IntN(4)))}} {
			leads(t, other[0], other[1], old)
			if hold(t, other[0], other[1]) {
				together++
			} else {
				never++
			}
		}
	}
	if together < times || never < times {
		t.Errorf("P1402: %d go together, %d do not: too few of one sort to tell anything", together, never)
	}
}

// From one over a second to a third comes the same as at once.
func TestThreeByChance(t *testing.T) {
	c := rand.New(rand.NewPCG(14, 2))
	for range 5000 {
		old := fileByChance(c, c.IntN(12))
		p, q, r := stepsByChance(c, old), stepsByChance(c, old), stepsByChance(c, old)
		one, first := apply.Do(p, old)
		three, third := apply.Do(r, old)
		if !first || !third || !apply.Fits(q, old) {
			t.Fatalf("%#v, %#v, %#v: one can't be done to %q: no test of what can", p, q, r, old)
		}
		ahead, _ := inter.Ops(p, q)
		behind, _ := inter.Ops(q, r)
		l, ok := compose.Then(ahead, behind)
		if got, is := apply.Do(l, one); !ok || !is || !slices.Equal(got, three) {
			t.Errorf("P1402: from %#v over %#v to %#v: %#v, %v; done to %q: %q, %v; wanted %q", p, q, r, l, ok, one, got, is, three)
		}
	}
}

// What all skip ahead is no more than that, however far it is.
func TestFarIntoAFile(t *testing.T) {
	c := rand.New(rand.NewPCG(14, 3))
	for range 2000 {
		old := fileByChance(c, c.IntN(12))
		p, q := stepsByChance(c, old), stepsByChance(c, old)
		near, ok := inter.Ops(p, q)
		for _, far := range []int{1, 1 << 20, api.MaxNum - 1000} {
			ahead := steps(skip(far))
			got, is := inter.Ops(slices.Concat(ahead, p), slices.Concat(ahead, q))
			var want []api.Op
			if ok {
				want = ops.Norm(slices.Concat(ahead, near))
			}
			if is != ok || !slices.Equal(got, want) {
				t.Errorf("P1401: %d lines ahead, Ops of %#v and %#v: %#v, %v; wanted %#v, %v", far, p, q, got, is, want, ok)
			}
		}
	}
}

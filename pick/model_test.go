package pick_test

import (
	"math"
	"math/rand/v2"
	"slices"
	"strings"
	"testing"

	"patchwork/api"
	"patchwork/apply"
	"patchwork/compose"
	"patchwork/ops"
	"patchwork/pick"
	"patchwork/swap"
)

// sorts says how many steps and picks were of each sort.
type sorts struct{ wrong, untold, all, none, some int }

// wantMost holds that so many were of each sort.
func (s sorts) wantMost(t *testing.T, wrong, untold, others int) {
	t.Helper()
	if s.wrong < wrong || s.untold < untold || min(s.all, s.none, s.some) < others {
		t.Errorf("P1601: too few of a sort to tell anything: %+v", s)
	}
}

// slowOps reckons by the words of the chapter, and counts the sort.
func (s *sorts) slowOps(l []api.Op, picks []bool) ([]api.Op, []api.Op) {
	if !ops.Right(l) {
		s.wrong++
		return nil, nil
	}
	var first, second []api.Op
	picked, left := 0, 0
	for _, o := range ops.Norm(l) {
		i := picked + left
		switch {
		case o.Kind == api.Skip, o.Kind == api.Keep:
			first, second = append(first, o), append(second, o)
		case i >= len(picks) || !picks[i]:
			left++
			second = append(second, o)
			if o.Kind == api.Del {
				first = append(first, keep(o.Text))
			}
		default:
			picked++
			first = append(first, o)
			if o.Kind == api.Ins {
				second = append(second, keep(o.Text))
			}
		}
	}
	switch {
	case !ops.Right(first) || !ops.Right(second):
		s.untold++
		return nil, nil
	case left == 0:
		s.all++
	case picked == 0:
		s.none++
	default:
		s.some++
	}
	return ops.Norm(first), ops.Norm(second)
}

// slowRows reckons how long the rows of changes are, with all else as what parts them.
func slowRows(l []api.Op) []api.Range {
	drawn := ""
	for _, o := range l {
		drawn += map[bool]string{true: "x", false: " "}[o.Kind == api.Del || o.Kind == api.Ins]
	}
	var out []api.Range
	number := 0
	for _, row := range strings.Fields(drawn) {
		out = append(out, api.Range{From: number, To: number + len(row) - 1})
		number += len(row)
	}
	return out
}

// parted answers the changes of steps that are picked, and the others, without what stands between.
func parted(l []api.Op, picks []bool) (picked, others []api.Op) {
	for i, o := range changes(ops.Norm(l)) {
		if i < len(picks) && picks[i] {
			picked = append(picked, o)
		} else {
			others = append(others, o)
		}
	}
	return picked, others
}

// changes answers the steps without those that let lines stay.
func changes(l []api.Op) []api.Op {
	return slices.DeleteFunc(slices.Clone(l), func(o api.Op) bool { return o.Kind != api.Del && o.Kind != api.Ins })
}

// hold holds Ops against the slow one, and against what follows from it.
func (s *sorts) hold(t *testing.T, l []api.Op, picks []bool) {
	t.Helper()
	was := *s
	one, two := s.slowOps(l, picks)
	first, second := pick.Ops(l, picks)
	if !slices.Equal(first, one) || !slices.Equal(second, two) {
		t.Errorf("P1601: Ops of %#v and %v: %#v, %#v; wanted %#v, %#v", l, picks, first, second, one, two)
	}
	if s.wrong > was.wrong || s.untold > was.untold {
		return
	}
	picked, others := parted(l, picks)
	if !slices.Equal(changes(first), picked) || !slices.Equal(changes(second), others) {
		t.Errorf("P1601: Ops of %#v and %v: %#v, %#v have other changes", l, picks, first, second)
	}
	if !slices.Equal(first, ops.Norm(first)) || !slices.Equal(second, ops.Norm(second)) {
		t.Errorf("P1601: Ops of %#v and %v: %#v, %#v are not as ops.Norm writes them", l, picks, first, second)
	}
	if both, ok := compose.Then(first, second); !ok || !slices.Equal(both, ops.Norm(l)) {
		t.Errorf("P1602: Ops of %#v and %v: %#v, then %#v: %#v, %v", l, picks, first, second, both, ok)
	}
	// Where they can change places, the others are picked.
	if x, y, e := swap.Ops(first, second); e == api.OK {
		if first, second := pick.Ops(l, other(picks, ops.Changes(l))); !slices.Equal(first, x) || !slices.Equal(second, y) {
			t.Errorf("P1601: Ops of %#v and what %v leaves: %#v, %#v; wanted %#v, %#v", l, picks, first, second, x, y)
		}
	}
}

// other answers the picks that pick, of n changes, what these leave.
func other(picks []bool, n int) []bool {
	out := make([]bool, n)
	for i := range out {
		out[i] = i >= len(picks) || !picks[i]
	}
	return out
}

// holdRows holds Rows against the slow one, and against what each row is.
func holdRows(t *testing.T, l []api.Op) {
	t.Helper()
	got := pick.Rows(l)
	if !slices.Equal(got, slowRows(l)) {
		t.Errorf("P1601: Rows of %#v: %v; wanted %v", l, got, slowRows(l))
	}
	if !ops.Right(l) || ops.Olds(l)+ops.Changes(l) > api.MaxNum {
		return
	}
	if same := pick.Rows(ops.Norm(l)); !slices.Equal(got, same) {
		t.Errorf("P1601: Rows of %#v: %v; as ops.Norm writes it: %v", l, got, same)
	}
	// A row alone and the others never stand side by side: they can change places.
	for _, r := range got {
		picks := make([]bool, r.To+1)
		for i := r.From; i <= r.To; i++ {
			picks[i] = true
		}
		first, second := pick.Ops(l, picks)
		if _, _, e := swap.Ops(first, second); e != api.OK || ops.Changes(first) != r.To-r.From+1 || ops.Changes(first)+ops.Changes(second) != ops.Changes(l) {
			t.Errorf("P1601: Rows of %#v: %v; %v picked: %#v, %#v, %v", l, got, r, first, second, e)
		}
	}
}

// done holds that what is picked, and then the others, make of old what all make, and tells whether all can be done to it.
func done(t *testing.T, l []api.Op, picks []bool, old []string) bool {
	t.Helper()
	want, ok := apply.Do(l, old)
	first, second := pick.Ops(l, picks)
	if !ok || len(first)+len(second) == 0 {
		return ok
	}
	between, is := apply.Do(first, old)
	got, too := apply.Do(second, between)
	if !is || !too || !slices.Equal(got, want) {
		t.Errorf("P1602: Ops of %#v and %v: %#v, %#v; done to %q: %q, %v, %q, %v; wanted %q", l, picks, first, second, old, between, is, got, too, want)
	}
	return true
}

// lists answers every list of up to most of the things in of.
func lists[T any](of []T, most int) [][]T {
	out := [][]T{nil}
	for from := 0; most > 0; most-- {
		upTo := len(out)
		for _, l := range out[from:upTo] {
			for _, one := range of {
				out = append(out, append(slices.Clip(l), one))
			}
		}
		from = upTo
	}
	return out
}

// allPicks answers all picks of at most n and one.
func allPicks(n int) [][]bool { return lists([]bool{false, true}, n+1) }

// All short steps, all that can be picked of them, and every file that is long enough.
func TestAllShortStepsAndTheirFiles(t *testing.T) {
	var files [][]string
	for _, l := range lists(file("a\n", "b\n", "z"), 4) {
		if !slices.Contains(l[:max(len(l)-1, 0)], "z") {
			files = append(files, l)
		}
	}
	met, can := sorts{}, 0
	for _, l := range lists(steps(skip(1), keep("a\n"), keep("z"), del("a\n"), del("z"), ins("b\n"), ins("z")), 4) {
		holdRows(t, l)
		fit := slices.DeleteFunc(slices.Clone(files), func(old []string) bool { return !apply.Fits(l, old) })
		for _, picks := range allPicks(ops.Changes(l)) {
			met.hold(t, l, picks)
			for _, old := range fit {
				if done(t, l, picks, old) {
					can++
				}
			}
		}
	}
	met.wantMost(t, 10000, 100, 1000)
	if can < 10000 {
		t.Errorf("P1602: only %d could be done", can)
	}
}

// With rows of several, in each order of their kinds, and Skips that come side by side.
func TestAllStepsOfFewKinds(t *testing.T) {
	met := sorts{}
	for _, l := range lists(steps(skip(1), keep("k\n"), del("a\n"), ins("b\n"), ins("c\n")), 5) {
		holdRows(t, l)
		for _, picks := range allPicks(ops.Changes(l)) {
			met.hold(t, l, picks)
		}
	}
	met.wantMost(t, 0, 0, 10000)
}

func TestAllShortStepsThatMayBeWrong(t *testing.T) {
	met := sorts{}
	for _, l := range lists(steps(
		skip(0), skip(1), skip(-1), skip(api.MaxNum), skip(api.MaxNum-1), skip(api.MaxNum+1), skip(math.MaxInt), skip(math.MinInt),
		keep("k\n"), del("k\n"), ins("k\n"), del("y"), ins("y"), keep(""), del(""), del("a\nb"), ins(""), ins("\n\n"),
		api.Op{}, api.Op{Kind: 5, N: 1, Text: "a\n"}, api.Op{Kind: api.Skip, N: 1, Text: "a\n"}, api.Op{Kind: api.Del, N: 1, Text: "a\n"}, api.Op{Kind: api.Ins, N: -1, Text: "a\n"},
	), 3) {
		holdRows(t, l)
		for _, picks := range [][]bool{nil, {true}, {false, true}, {true, true, true, true}} {
			met.hold(t, l, picks)
		}
	}
	met.wantMost(t, 10000, 20, 100)
}

// fileByChance makes lines of a file.
func fileByChance(c *rand.Rand, n int) []string {
	var out []string
	for range n {
		out = append(out, strings.Repeat("x", c.IntN(2))+string(rune('a'+c.IntN(3)))+"\n")
	}
	if n > 0 && c.IntN(3) == 0 {
		out[n-1] = strings.TrimSuffix(out[n-1], "\n")
	}
	return out
}

// stepsByChance makes steps that can be done to these lines, few or many of them changes.
func stepsByChance(c *rand.Rand, old []string, most int) []api.Op {
	var l []api.Op
	last := "\n" // the last line of the new side
	for c.IntN(20) > 0 && strings.HasSuffix(last, "\n") {
		switch n := c.IntN(most); {
		case n == 0:
			last = fileByChance(c, 1)[0]
			if len(old) > 0 {
				last = strings.TrimSuffix(last, "\n") + "\n"
			}
			l = append(l, ins(last))
		case len(old) == 0:
		case n == 1:
			l, old = append(l, del(old[0])), old[1:]
		case n == 2:
			many := 1 + c.IntN(len(old))
			last = old[many-1]
			l, old = append(l, skip(many)), old[many:]
		default:
			last = old[0]
			l, old = append(l, []api.Op{keep(last), skip(1)}[c.IntN(2)]), old[1:]
		}
	}
	return l
}

// turn turns one step into something else.
func turn(c *rand.Rand, l []api.Op) []api.Op {
	out := slices.Clone(l)
	if len(out) == 0 {
		return out
	}
	i := c.IntN(len(out))
	switch c.IntN(6) {
	case 0:
		return slices.Delete(out, i, i+1)
	case 1:
		return slices.Insert(out, i, out[i])
	case 2:
		out[i].N += c.IntN(5) - 2
	case 3:
		out[i].Kind += c.IntN(5) - 2
	case 4:
		out[i].Text = strings.TrimSuffix(out[i].Text, "\n")
	default:
		out[i].Text = fileByChance(c, 1)[0]
	}
	return out
}

// picksByChance makes picks, fewer or more than the changes of l.
func picksByChance(c *rand.Rand, l []api.Op) []bool {
	picks := make([]bool, c.IntN(ops.Changes(l)+3))
	often := c.IntN(5)
	for i := range picks {
		picks[i] = c.IntN(4) < often
	}
	return picks
}

func TestStepsByChance(t *testing.T) {
	c := rand.New(rand.NewPCG(16, 1))
	const times = 30000
	met, others := sorts{}, sorts{}
	for range times {
		old := fileByChance(c, c.IntN(16))
		l := stepsByChance(c, old, 3+c.IntN(8))
		picks := picksByChance(c, l)
		if !done(t, l, picks, old) {
			t.Fatalf("%#v can't be done to %q: no test of what can", l, old)
		}
		holdRows(t, l)
		met.hold(t, l, picks)
		turned := turn(c, l)
		holdRows(t, turned)
		others.hold(t, turned, picks)
		done(t, turned, picks, old)
	}
	met.wantMost(t, 0, times/500, times/20)
	others.wantMost(t, times/5, times/1000, times/40)
}

// What all skip ahead is no more than that, however far it is.
func TestFarIntoAFile(t *testing.T) {
	c := rand.New(rand.NewPCG(16, 2))
	for range 4000 {
		l := stepsByChance(c, fileByChance(c, 12), 4+c.IntN(4))
		picks := picksByChance(c, l)
		met := sorts{}
		one, two := met.slowOps(l, picks)
		for _, far := range []int{1, 1 << 20, api.MaxNum - 1000} {
			ahead := steps(skip(far))
			var first, second []api.Op
			if met.untold == 0 {
				first, second = ops.Norm(slices.Concat(ahead, one)), ops.Norm(slices.Concat(ahead, two))
			}
			x, y := pick.Ops(slices.Concat(ahead, l), picks)
			if !slices.Equal(x, first) || !slices.Equal(y, second) {
				t.Errorf("P1601: %d lines ahead, Ops of %#v and %v: %#v, %#v; wanted %#v, %#v", far, l, picks, x, y, first, second)
			}
			holdRows(t, slices.Concat(ahead, l))
		}
	}
}

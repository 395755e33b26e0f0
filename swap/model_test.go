package swap_test

import (
	"math"
	"math/rand/v2"
	"slices"
	"strings"
	"testing"

	"patchwork/api"
	"patchwork/apply"
	"patchwork/compose"
	"patchwork/ops"
	"patchwork/swap"
)

// told is a step that is told of both: whose change it is, 'p' or 'q', or neither's.
type told struct {
	api.Op
	whose byte
}

// single answers the steps with each Skip as Skips of one.
func single(l []api.Op) []api.Op {
	var out []api.Op
	for _, o := range l {
		if o.Kind == api.Skip {
			out = append(out, slices.Repeat(steps(skip(1)), o.N)...)
		} else {
			out = append(out, o)
		}
	}
	return out
}

// slowTold goes through both, that go together, line by line, by the words of the chapter on compose; Skips must be few. It tells whether an Ins of p met a Del of q.
func slowTold(p, q []api.Op) ([]told, bool) {
	var out []told
	met := false
	p, q = single(p), single(q)
	for len(p) > 0 || len(q) > 0 {
		if len(p) > 0 && p[0].Kind == api.Del {
			out, p = append(out, told{p[0], 'p'}), p[1:]
			continue
		}
		if len(q) > 0 && q[0].Kind == api.Ins {
			out, q = append(out, told{q[0], 'q'}), q[1:]
			continue
		}
		a, b := skip(1), skip(1)
		if len(p) > 0 {
			a, p = p[0], p[1:]
		}
		if len(q) > 0 {
			b, q = q[0], q[1:]
		}
		switch [2]int{a.Kind, b.Kind} {
		case [2]int{api.Skip, api.Skip}, [2]int{api.Keep, api.Skip}:
			out = append(out, told{a, 0})
		case [2]int{api.Skip, api.Keep}, [2]int{api.Keep, api.Keep}:
			out = append(out, told{b, 0})
		case [2]int{api.Skip, api.Del}, [2]int{api.Keep, api.Del}:
			out = append(out, told{b, 'q'})
		case [2]int{api.Ins, api.Skip}, [2]int{api.Ins, api.Keep}:
			out = append(out, told{a, 'p'})
		case [2]int{api.Ins, api.Del}:
			met = true
		}
	}
	return out, met
}

// besides tells whether a change of p and one of q stand side by side.
func besides(l []told) bool {
	for i := range l {
		if i > 0 && l[i].whose+l[i-1].whose == 'p'+'q' {
			return true
		}
	}
	return false
}

// slowOps reckons by the words of the chapter.
func slowOps(p, q []api.Op) ([]api.Op, []api.Op, api.Errno) {
	if !ops.Right(p) || !ops.Right(q) {
		return nil, nil, api.ErrArg
	}
	if _, ok := compose.Then(p, q); !ok {
		return nil, nil, api.ErrConflict
	}
	all, met := slowTold(p, q)
	if met || besides(all) {
		return nil, nil, api.ErrCommute
	}
	var first, second []api.Op
	for _, o := range all {
		switch {
		case o.whose == 'p' && o.Kind == api.Del:
			first, second = append(first, keep(o.Text)), append(second, o.Op)
		case o.whose == 'p':
			second = append(second, o.Op)
		case o.whose == 'q' && o.Kind == api.Ins:
			first, second = append(first, o.Op), append(second, keep(o.Text))
		case o.whose == 'q':
			first = append(first, o.Op)
		default:
			first, second = append(first, o.Op), append(second, o.Op)
		}
	}
	if !ops.Right(first) || !ops.Right(second) {
		return nil, nil, api.ErrCommute
	}
	return ops.Norm(first), ops.Norm(second), api.OK
}

// change is one with its place: the lines of the old side, and of the new side, that stand ahead of it.
type change struct {
	kind     int
	text     string
	old, new int
}

// changes lists the changes of steps, as ops.Norm writes them, with their places.
func changes(l []api.Op) []change {
	var out []change
	l = ops.Norm(l)
	for i, o := range l {
		if o.Kind == api.Del || o.Kind == api.Ins {
			out = append(out, change{o.Kind, o.Text, ops.Olds(l[:i]), ops.News(l[:i])})
		}
	}
	return out
}

// rows lists what goes and comes, row by row.
func rows(l []api.Op) [][]api.Op {
	var out [][]api.Op
	stays := true
	for _, o := range ops.Norm(l) {
		if o.Kind == api.Skip || o.Kind == api.Keep {
			stays = true
			continue
		}
		if stays {
			out = append(out, nil)
		}
		stays = false
		out[len(out)-1] = append(out[len(out)-1], o)
	}
	return out
}

// sameRows tells whether two have the same changes, row by row.
func sameRows(a, b []api.Op) bool {
	return slices.EqualFunc(rows(a), rows(b), slices.Equal)
}

// hold holds Ops against the slow one, and against what follows from it; Skips must be few. It tells what Ops told.
func hold(t *testing.T, p, q []api.Op) api.Errno {
	t.Helper()
	first, second, e := swap.Ops(p, q)
	one, two, want := slowOps(p, q)
	if e != want || !slices.Equal(first, one) || !slices.Equal(second, two) {
		t.Errorf("P1501: Ops of %#v and %#v: %#v, %#v, %v; wanted %#v, %#v, %v", p, q, first, second, e, one, two, want)
	}
	if e == api.OK {
		holdSwapped(t, p, q, first, second)
	}
	return e
}

// holdSwapped holds what follows of p and q that have changed places.
func holdSwapped(t *testing.T, p, q, first, second []api.Op) {
	t.Helper()
	if !ops.Right(first) || !ops.Right(second) || !slices.Equal(ops.Norm(first), first) || !slices.Equal(ops.Norm(second), second) {
		t.Errorf("P1501: Ops of %#v and %#v: %#v and %#v are not as ops.Norm writes them", p, q, first, second)
	}
	if !sameRows(first, q) || !sameRows(second, p) {
		t.Errorf("P1502: Ops of %#v and %#v: %#v and %#v have other changes", p, q, first, second)
	}
	want, _ := compose.Then(p, q)
	if got, ok := compose.Then(first, second); !ok || !slices.Equal(got, want) {
		t.Errorf("P1502: Ops of %#v and %#v: %#v, then %#v: %#v, %v; wanted %#v", p, q, first, second, got, ok, want)
	}
	x, y, e := swap.Ops(first, second)
	if e != api.OK || !slices.Equal(changes(x), changes(p)) || !slices.Equal(changes(y), changes(q)) {
		t.Errorf("P1502: Ops of %#v and %#v, swapped again: %#v and %#v, %v", p, q, x, y, e)
	}
}

// done holds, where p and then q can be done to old, that what Ops answers can, and makes the same; it tells whether the two can.
func done(t *testing.T, p, q []api.Op, old []string) bool {
	t.Helper()
	middle, is := apply.Do(p, old)
	want, too := apply.Do(q, middle)
	if !is || !too {
		return false
	}
	first, second, e := swap.Ops(p, q)
	if e == api.ErrArg || e == api.ErrConflict {
		t.Errorf("P1501: Ops of %#v and %#v: %v; they can be done to %q", p, q, e, old)
	}
	if e != api.OK {
		return true
	}
	between, ok := apply.Do(first, old)
	got, right := apply.Do(second, between)
	if !ok || !right || !slices.Equal(got, want) {
		t.Errorf("P1502: Ops of %#v and %#v: %#v, %#v; done to %q: %q, %v, %q, %v; wanted %q", p, q, first, second, old, between, ok, got, right, want)
	}
	x, y, _ := swap.Ops(first, second)
	back, ok := apply.Do(x, old)
	got, right = apply.Do(y, back)
	if !ok || !right || !slices.Equal(back, middle) || !slices.Equal(got, want) {
		t.Errorf("P1502: Ops of %#v and %#v, swapped again: %#v, %#v; done to %q: %q, %v, %q, %v; wanted %q, %q", p, q, x, y, old, back, ok, got, right, middle, want)
	}
	return true
}

// lists answers every list of up to most of the things in of.
func lists[T any](of []T, most int) [][]T {
	out := [][]T{nil}
	for from := 0; most > 0; most-- {
		upTo := len(out)
		for _, l := range out[from:upTo] {
			for _, one := range of {
				out = append(out, append(slices.Clip(l), one))
			}
		}
		from = upTo
	}
	return out
}

// right answers those lists that are ops.Right.
func right(all [][]api.Op) [][]api.Op {
	return slices.DeleteFunc(all, func(l []api.Op) bool { return !ops.Right(l) })
}

// counts says how many pairs each error was told of.
type counts map[api.Errno]int

// wantMost holds that each of the errors, and none, was told of so many pairs.
func (c counts) wantMost(t *testing.T, n int, errs ...api.Errno) {
	t.Helper()
	for _, e := range errs {
		if c[e] < n {
			t.Errorf("P1501: of error %v %d pairs: too few to tell anything; of all: %v", e, c[e], c)
		}
	}
}

// Every short p meets every short q, and every file that is long enough for both.
func TestAllShortPairsAndTheirFiles(t *testing.T) {
	kinds := steps(skip(1), keep("a\n"), keep("b\n"), keep("z"), del("a\n"), del("b\n"), del("z"), ins("a\n"), ins("b\n"), ins("z"))
	few, more := right(lists(kinds, 2)), right(lists(kinds, 3))
	var files [][]string
	for _, l := range lists(file("a\n", "b\n", "z"), 4) {
		if !slices.Contains(l[:max(len(l)-1, 0)], "z") {
			files = append(files, l)
		}
	}
	met := counts{}
	for _, x := range [][2][][]api.Op{{few, more}, {more, few}} {
		for _, p := range x[0] {
			fit := slices.DeleteFunc(slices.Clone(files), func(l []string) bool { return !apply.Fits(p, l) })
			for _, q := range x[1] {
				e := hold(t, p, q)
				met[e]++
				if e != api.OK {
					continue
				}
				for _, old := range fit {
					done(t, p, q, old)
				}
			}
		}
	}
	met.wantMost(t, 10000, api.OK, api.ErrConflict, api.ErrCommute)
}

// With two rows of changes and what stands between them, each parted from the other one's or not.
func TestAllPairsOfFewKinds(t *testing.T) {
	met := counts{}
	l := right(lists(steps(skip(1), keep("a\n"), del("a\n"), ins("a\n")), 4))
	for _, p := range l {
		for _, q := range l {
			met[hold(t, p, q)]++
		}
	}
	met.wantMost(t, 20000, api.OK, api.ErrCommute)
}

// With Skips of several lines, that end at other places in p than in q.
func TestAllShortPairsWithLongerSkips(t *testing.T) {
	met := counts{}
	l := lists(steps(skip(1), skip(2), skip(3), keep("a\n"), del("a\n"), ins("a\n"), ins("z"), del("z")), 3)
	for _, p := range l {
		for _, q := range l {
			met[hold(t, p, q)]++
		}
	}
	met.wantMost(t, 10000, api.OK, api.ErrArg, api.ErrConflict, api.ErrCommute)
}

func TestAllShortPairsWithWrongSteps(t *testing.T) {
	l := lists(steps(
		skip(0), skip(1), skip(-1), skip(api.MaxNum+1), skip(math.MaxInt), skip(math.MinInt),
		keep("k\n"), del("k\n"), ins("k\n"), del("y"), ins("y"), keep(""), del("a\nb"), ins("\n\n"),
		api.Op{}, api.Op{Kind: 5, N: 1, Text: "a\n"}, api.Op{Kind: api.Skip, N: 1, Text: "a\n"}, api.Op{Kind: api.Del, N: 1, Text: "a\n"}, api.Op{Kind: api.Ins, N: -1, Text: "a\n"},
	), 2)
	for _, p := range l {
		for _, q := range l {
			hold(t, p, q)
		}
	}
}

// fileByChance makes lines of a file.
func fileByChance(c *rand.Rand, n int) []string {
	var out []string
	for range n {
		out = append(out, strings.Repeat("x", c.IntN(2))+string(rune('a'+c.IntN(3)))+"\n")
	}
	if n > 0 && c.IntN(3) == 0 {
		out[n-1] = strings.TrimSuffix(out[n-1], "\n")
	}
	return out
}

// stepsByChance makes steps that can be done to these lines, few or many of them changes.
func stepsByChance(c *rand.Rand, old []string, most int) []api.Op {
	var l []api.Op
	last := "\n" // the last line of the new side
	for c.IntN(20) > 0 && strings.HasSuffix(last, "\n") {
		switch n := c.IntN(most); {
		case n == 0:
			last = fileByChance(c, 1)[0]
			if len(old) > 0 {
				last = strings.TrimSuffix(last, "\n") + "\n"
			}
			l = append(l, ins(last))
		case len(old) == 0:
		case n == 1:
			l, old = append(l, del(old[0])), old[1:]
		case n == 2:
			many := 1 + c.IntN(len(old))
			last = old[many-1]
			l, old = append(l, skip(many)), old[many:]
		default:
			last = old[0]
			l, old = append(l, []api.Op{keep(last), skip(1)}[c.IntN(2)]), old[1:]
		}
	}
	return l
}

// turn turns one step into something else.
func turn(c *rand.Rand, l []api.Op) []api.Op {
	out := slices.Clone(l)
	if len(out) == 0 {
		return out
	}
	i := c.IntN(len(out))
	switch c.IntN(6) {
	case 0:
		return slices.Delete(out, i, i+1)
	case 1:
		return slices.Insert(out, i, out[i])
	case 2:
		out[i].N += c.IntN(5) - 2
	case 3:
		out[i].Kind += c.IntN(5) - 2
	case 4:
		out[i].Text = strings.TrimSuffix(out[i].Text, "\n")
	default:
		out[i].Text = fileByChance(c, 1)[0]
	}
	return out
}

// pairByChance makes a file, and two that can be done to it, one behind the other.
func pairByChance(c *rand.Rand) (old []string, p, q []api.Op) {
	old = fileByChance(c, c.IntN(16))
	p = stepsByChance(c, old, 4+c.IntN(12))
	middle, _ := apply.Do(p, old)
	return old, p, stepsByChance(c, middle, 4+c.IntN(12))
}

func TestPairsByChance(t *testing.T) {
	c := rand.New(rand.NewPCG(15, 1))
	const times = 20000
	met, others, both := counts{}, counts{}, 0
	for range times {
		old, p, q := pairByChance(c)
		if !done(t, p, q, old) {
			t.Fatalf("%#v and then %#v can't be done to %q: no test of what can", p, q, old)
		}
		e := hold(t, p, q)
		met[e]++
		if e == api.OK && ops.Changes(p) > 0 && ops.Changes(q) > 0 {
			both++
		}
		for _, other := range [][2][]api.Op{{turn(c, p), q}, {p, turn(c, q)}, {q, p}, {p, turn(c, p)}} {
			done(t, other[0], other[1], old)
			others[hold(t, other[0], other[1])]++
		}
	}
	met.wantMost(t, times/5, api.OK, api.ErrCommute)
	others.wantMost(t, times/5, api.OK, api.ErrArg, api.ErrConflict, api.ErrCommute)
	if both < times/10 {
		t.Errorf("P1502: only %d pairs that both change something have changed places", both)
	}
}

// What all skip ahead is no more than that, however far it is.
func TestFarIntoAFile(t *testing.T) {
	c := rand.New(rand.NewPCG(15, 2))
	for range 4000 {
		_, p, q := pairByChance(c)
		first, second, e := swap.Ops(p, q)
		for _, far := range []int{1, 1 << 20, api.MaxNum - 1000} {
			ahead := steps(skip(far))
			var one, two []api.Op
			if e == api.OK {
				one, two = ops.Norm(slices.Concat(ahead, first)), ops.Norm(slices.Concat(ahead, second))
			}
			x, y, is := swap.Ops(slices.Concat(ahead, p), slices.Concat(ahead, q))
			if is != e || !slices.Equal(x, one) || !slices.Equal(y, two) {
				t.Errorf("P1501: %d lines ahead, Ops of %#v and %#v: %#v, %#v, %v; wanted %#v, %#v, %v", far, p, q, x, y, is, one, two, e)
			}
		}
	}
}

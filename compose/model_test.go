package compose_test

import (
	"math"
	"math/rand/v2"
	"slices"
	"strings"
	"testing"

	"patchwork/api"
	"patchwork/apply"
	"patchwork/compose"
	"patchwork/ops"
)

// single answers the steps with each Skip as Skips of one.
func single(l []api.Op) []api.Op {
	var out []api.Op
	for _, o := range l {
		if o.Kind == api.Skip {
			out = append(out, slices.Repeat(steps(skip(1)), o.N)...)
		} else {
			out = append(out, o)
		}
	}
	return out
}

// slowThen goes through both step by step, by the words of the chapter; Skips must be few.
func slowThen(p, q []api.Op) ([]api.Op, bool) {
	if !ops.Right(p) || !ops.Right(q) {
		return nil, false
	}
	var out []api.Op
	var middle [][]string // what is known of each line of it
	p, q = single(p), single(q)
	for len(p) > 0 || len(q) > 0 {
		if len(p) > 0 && p[0].Kind == api.Del {
			out, p = append(out, p[0]), p[1:]
			continue
		}
		if len(q) > 0 && q[0].Kind == api.Ins {
			out, q = append(out, q[0]), q[1:]
			continue
		}
		a, b := skip(1), skip(1)
		if len(p) > 0 {
			a, p = p[0], p[1:]
		}
		if len(q) > 0 {
			b, q = q[0], q[1:]
		}
		middle = append(middle, file(a.Text, b.Text))
		one := a.Text == b.Text
		switch [2]int{a.Kind, b.Kind} {
		case [2]int{api.Skip, api.Skip}:
			out = append(out, skip(1))
		case [2]int{api.Skip, api.Keep}, [2]int{api.Skip, api.Del}:
			out = append(out, b)
		case [2]int{api.Keep, api.Skip}, [2]int{api.Ins, api.Skip}:
			out = append(out, a)
		case [2]int{api.Keep, api.Keep}, [2]int{api.Keep, api.Del}:
			if !one {
				return nil, false
			}
			out = append(out, b)
		case [2]int{api.Ins, api.Keep}:
			if !one {
				return nil, false
			}
			out = append(out, a)
		case [2]int{api.Ins, api.Del}:
			if !one {
				return nil, false
			}
		}
	}
	for i, known := range middle {
		for _, text := range known {
			if text != "" && !strings.HasSuffix(text, "\n") && i+1 < len(middle) {
				return nil, false
			}
		}
	}
	if !ops.Right(out) {
		return nil, false
	}
	return ops.Norm(out), true
}

// hold holds Then against the slow one; it tells whether the two go together.
func hold(t *testing.T, p, q []api.Op) bool {
	t.Helper()
	got, ok := compose.Then(p, q)
	want, is := slowThen(p, q)
	if ok != is || !slices.Equal(got, want) {
		t.Errorf("P1101: Then of %#v and %#v: %#v, %v; wanted %#v, %v", p, q, got, ok, want, is)
	}
	if !slices.Equal(ops.Norm(got), got) {
		t.Errorf("P1101: Then of %#v and %#v: %#v is not as ops.Norm writes it", p, q, got)
	}
	return ok
}

// done holds, where both can be done one behind the other, that what comes of them does the same; it tells whether both can be done.
func done(t *testing.T, p, q []api.Op, old []string) bool {
	t.Helper()
	between, first := apply.Do(p, old)
	want, second := apply.Do(q, between)
	if !first || !second {
		return false
	}
	l, ok := compose.Then(p, q)
	if got, is := apply.Do(l, old); !ok || !is || !slices.Equal(got, want) {
		t.Errorf("P1102: Then of %#v and %#v: %#v, %v; done to %q: %q, %v; wanted %q", p, q, l, ok, old, got, is, want)
	}
	return true
}

// lists answers every list of up to most of the things in of.
func lists[T any](of []T, most int) [][]T {
	out := [][]T{nil}
	for from := 0; most > 0; most-- {
		upTo := len(out)
		for _, l := range out[from:upTo] {
			for _, one := range of {
				out = append(out, append(slices.Clip(l), one))
			}
		}
		from = upTo
	}
	return out
}

// right answers those lists that are ops.Right.
func right(all [][]api.Op) [][]api.Op {
	return slices.DeleteFunc(all, func(l []api.Op) bool { return !ops.Right(l) })
}

// Every short p meets every short q, and every file that is long enough to tell whether the two ever go together.
func TestAllShortPairsAndTheirFiles(t *testing.T) {
	kinds := steps(skip(1), keep("a\n"), keep("b\n"), keep("z"), del("a\n"), del("b\n"), del("z"), ins("a\n"), ins("b\n"), ins("z"))
	few, more := right(lists(kinds, 2)), right(lists(kinds, 3))
	var files [][]string
	for _, l := range lists(file("a\n", "b\n", "z"), 5) {
		if !slices.Contains(l[:max(len(l)-1, 0)], "z") {
			files = append(files, l)
		}
	}
	yes, no := 0, 0
	for _, x := range [][2][][]api.Op{{few, more}, {more, few}} {
		for _, p := range x[0] {
			var olds, betweens [][]string
			for _, old := range files {
				if between, ok := apply.Do(p, old); ok {
					olds, betweens = append(olds, old), append(betweens, between)
				}
			}
			for _, q := range x[1] {
				ever := hold(t, p, q)
				fits := slices.IndexFunc(betweens, func(l []string) bool { return apply.Fits(q, l) })
				if ever != (fits >= 0) {
					t.Errorf("P1102: Then of %#v and %#v is %v; they can be done to file %d", p, q, ever, fits)
				}
				if !ever {
					no++
					continue
				}
				yes++
				for _, old := range olds {
					done(t, p, q, old)
				}
			}
		}
	}
	if yes < 20000 || no < 20000 {
		t.Errorf("P1102: %d pairs go together, %d do not: too few of one sort to tell anything", yes, no)
	}
}

// With Skips of several lines, that end at other places in p than in q.
func TestAllShortPairsWithLongerSkips(t *testing.T) {
	l := lists(steps(skip(1), skip(2), skip(3), keep("a\n"), del("a\n"), ins("a\n"), ins("z"), del("z")), 3)
	for _, p := range l {
		for _, q := range l {
			hold(t, p, q)
		}
	}
}

func TestAllShortPairsWithWrongSteps(t *testing.T) {
	l := lists(steps(
		skip(0), skip(1), skip(-1), skip(api.MaxNum+1), skip(math.MaxInt), skip(math.MinInt),
		keep("k\n"), del("k\n"), ins("k\n"), del("y"), ins("y"), keep(""), del("a\nb"), ins("\n\n"),
		api.Op{}, api.Op{Kind: 5, N: 1, Text: "a\n"}, api.Op{Kind: api.Skip, N: 1, Text: "a\n"}, api.Op{Kind: api.Del, N: 1, Text: "a\n"}, api.Op{Kind: api.Ins, N: -1, Text: "a\n"},
	), 2)
	for _, p := range l {
		for _, q := range l {
			hold(t, p, q)
		}
	}
}

func TestRestOfAllShortLists(t *testing.T) {
	for _, l := range lists(steps(skip(1), skip(2), skip(0), keep("k\n"), keep("z"), del("d\n"), ins("i\n"), api.Op{}), 4) {
		want := slices.Clone(l)
		for len(want) > 0 && want[len(want)-1].Kind == api.Skip {
			want = want[:len(want)-1]
		}
		if got := compose.Rest(l); !slices.Equal(got, want) {
			t.Errorf("P1102: Rest of %#v: %#v; wanted %#v", l, got, want)
		}
	}
}

// fileByChance makes lines of a file.
func fileByChance(c *rand.Rand, n int) []string {
	var out []string
	for range n {
		out = append(out, strings.Repeat("x", c.IntN(2))+string(rune('a'+c.IntN(3)))+"\n")
	}
	if n > 0 && c.IntN(3) == 0 {
		out[n-1] = strings.TrimSuffix(out[n-1], "\n")
	}
	return out
}

// stepsByChance makes steps that can be done to these lines, mostly.
func stepsByChance(c *rand.Rand, old []string) []api.Op {
	var l []api.Op
	for c.IntN(20) > 0 {
		switch n := c.IntN(4); {
		case n == 0:
			l = append(l, ins(fileByChance(c, 1)[0]))
			if len(old) > 0 {
				l[len(l)-1].Text = strings.TrimSuffix(l[len(l)-1].Text, "\n") + "\n"
			}
		case len(old) == 0:
		case n == 1:
			many := 1 + c.IntN(len(old))
			l, old = append(l, skip(many)), old[many:]
		case n == 2:
			l, old = append(l, keep(old[0])), old[1:]
		default:
			l, old = append(l, del(old[0])), old[1:]
		}
	}
	return l
}

// turn turns one step into something else.
func turn(c *rand.Rand, l []api.Op) []api.Op {
	out := slices.Clone(l)
	if len(out) == 0 {
		return out
	}
	i := c.IntN(len(out))
	switch c.IntN(6) {
	case 0:
		return slices.Delete(out, i, i+1)
	case 1:
		return slices.Insert(out, i, out[i])
	case 2:
		out[i].N += c.IntN(5) - 2
	case 3:
		out[i].Kind += c.IntN(5) - 2
	case 4:
		out[i].Text = strings.TrimSuffix(out[i].Text, "\n")
	default:
		out[i].Text = fileByChance(c, 1)[0]
	}
	return out
}

func TestPairsByChance(t *testing.T) {
	c := rand.New(rand.NewPCG(11, 1))
	const times = 20000
	both, together, never := 0, 0, 0
	for range times {
		old := fileByChance(c, c.IntN(16))
		p := stepsByChance(c, old)
		between, _ := apply.Do(p, old)
		q := stepsByChance(c, between)
		hold(t, p, q)
		if done(t, p, q, old) {
			both++
		}
		for _, other := range [][2][]api.Op{{turn(c, p), q}, {p, turn(c, q)}, {q, p}} {
			done(t, other[0], other[1], old)
			if hold(t, other[0], other[1]) {
				together++
			} else {
				never++
			}
		}
	}
	if both < times/5 || together < times/4 || never < times/4 {
		t.Errorf("P1102: %d are done, of others %d go together, %d do not: too few of one sort to tell anything", both, together, never)
	}
}

// What all skip ahead is no more than that, however far it is.
func TestFarIntoAFile(t *testing.T) {
	c := rand.New(rand.NewPCG(11, 2))
	for range 2000 {
		old := fileByChance(c, c.IntN(12))
		p := stepsByChance(c, old)
		between, _ := apply.Do(p, old)
		q := stepsByChance(c, between)
		near, ok := compose.Then(p, q)
		for _, far := range []int{1, 1 << 20, api.MaxNum - 1000} {
			ahead := steps(skip(far))
			got, is := compose.Then(slices.Concat(ahead, p), slices.Concat(ahead, q))
			var want []api.Op
			if ok {
				want = ops.Norm(slices.Concat(ahead, near))
			}
			if is != ok || !slices.Equal(got, want) {
				t.Errorf("P1101: %d lines ahead, Then of %#v and %#v: %#v, %v; wanted %#v, %v", far, p, q, got, is, want, ok)
			}
		}
	}
}

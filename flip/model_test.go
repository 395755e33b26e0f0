package flip_test

import (
	"math"
	"math/rand/v2"
	"slices"
	"strings"
	"testing"

	"patchwork/api"
	"patchwork/apply"
	"patchwork/flip"
	"patchwork/ops"
)

// slowBack turns step by step, by the words of the chapter, and then two neighbours at a time, as long as there are any to turn.
func slowBack(l []api.Op) []api.Op {
	if !ops.Right(l) {
		return nil
	}
	var out []api.Op
	for _, o := range l {
		switch o.Kind {
		case api.Del:
			out = append(out, ins(o.Text))
		case api.Ins:
			out = append(out, del(o.Text))
		default:
			out = append(out, o)
		}
	}
	for turned := true; turned; {
		turned = false
		for i := 0; i+1 < len(out); i++ {
			a, b := out[i], out[i+1]
			switch {
			case a.Kind == api.Skip && b.Kind == api.Skip:
				out = slices.Replace(out, i, i+2, skip(a.N+b.N))
				turned = true
			case a.Kind == api.Ins && b.Kind == api.Del:
				out[i], out[i+1] = b, a
				turned = true
			}
		}
	}
	return out
}

// hold holds Ops against the slow one, and against what follows from it; it tells whether l is right.
func hold(t *testing.T, l []api.Op) bool {
	t.Helper()
	back := flip.Ops(l)
	if want := slowBack(l); !slices.Equal(back, want) {
		t.Errorf("P1001: Ops of %#v: %#v; wanted %#v", l, back, want)
	}
	if twice := flip.Ops(back); !slices.Equal(twice, ops.Norm(l)) {
		t.Errorf("P1002: Ops of %#v turned back twice: %#v", l, twice)
	}
	if !ops.Right(l) {
		return false
	}
	if !ops.Right(back) || ops.Olds(back) != ops.News(l) || ops.News(back) != ops.Olds(l) || ops.Changes(back) != ops.Changes(l) {
		t.Errorf("P1001: Ops of %#v: %#v has other sides", l, back)
	}
	return true
}

// undone holds, where l can be done, that it is undone; it tells whether it can be.
func undone(t *testing.T, l []api.Op, old []string) bool {
	t.Helper()
	young, ok := apply.Do(l, old)
	if !ok {
		return false
	}
	back := flip.Ops(l)
	if got, is := apply.Do(back, young); !is || !slices.Equal(got, old) {
		t.Errorf("P1002: %#v done to %q: %q; %#v done to these: %q, %v", l, old, young, back, got, is)
	}
	return true
}

// lists answers every list of up to most of the things in of.
func lists[T any](of []T, most int) [][]T {
	out := [][]T{nil}
	for from := 0; most > 0; most-- {
		upTo := len(out)
		for _, l := range out[from:upTo] {
			for _, one := range of {
				out = append(out, append(slices.Clip(l), one))
			}
		}
		from = upTo
	}
	return out
}

func TestAllShortLists(t *testing.T) {
	for _, l := range lists(steps(skip(1), skip(2), keep("k\n"), keep("z"), del("d\n"), del("y"), ins("i\n"), ins("x")), 5) {
		hold(t, l)
	}
}

func TestAllShortListsWithWrongSteps(t *testing.T) {
	for _, l := range lists(steps(
		skip(0), skip(1), skip(-1), skip(1<<30), skip(api.MaxNum-1), skip(api.MaxNum), skip(api.MaxNum+1), skip(math.MaxInt), skip(math.MinInt),
		keep("k\n"), del("d\n"), ins("i\n"), del("y"), ins("x"), keep(""), del("a\nb"), ins("\n\n"),
		api.Op{}, api.Op{Kind: 5, N: 1, Text: "a\n"}, api.Op{Kind: api.Skip, N: 1, Text: "a\n"}, api.Op{Kind: api.Del, N: 1, Text: "a\n"}, api.Op{Kind: api.Ins, N: -1, Text: "a\n"},
	), 3) {
		hold(t, l)
	}
}

func TestAllShortListsDoneToAllShortFiles(t *testing.T) {
	olds := lists(file("a\n", "b\n", "a", "b"), 3)
	done := 0
	for _, l := range lists(steps(skip(1), skip(2), keep("a\n"), keep("b"), del("a\n"), del("b"), ins("a\n"), ins("b")), 4) {
		for _, old := range olds {
			if undone(t, l, old) {
				done++
			}
		}
	}
	if done < 3000 {
		t.Errorf("P1002: %d are done: too few to tell anything", done)
	}
}

// fileByChance makes lines of a file.
func fileByChance(c *rand.Rand, n int) []string {
	var out []string
	for range n {
		out = append(out, strings.Repeat("x", c.IntN(2))+string(rune('a'+c.IntN(3)))+"\n")
	}
	if n > 0 && c.IntN(3) == 0 {
		out[n-1] = strings.TrimSuffix(out[n-1], "\n")
	}
	return out
}

// stepsByChance makes steps that can be done to these lines, mostly.
func stepsByChance(c *rand.Rand, old []string) []api.Op {
	var l []api.Op
	for c.IntN(20) > 0 {
		switch n := c.IntN(4); {
		case n == 0:
			l = append(l, ins(fileByChance(c, 1)[0]))
			if len(old) > 0 {
				l[len(l)-1].Text = strings.TrimSuffix(l[len(l)-1].Text, "\n") + "\n"
			}
		case len(old) == 0:
		case n == 1:
			many := 1 + c.IntN(len(old))
			l, old = append(l, skip(many)), old[many:]
		case n == 2:
			l, old = append(l, keep(old[0])), old[1:]
		default:
			l, old = append(l, del(old[0])), old[1:]
		}
	}
	return l
}

// turn turns one step into something else.
func turn(c *rand.Rand, l []api.Op) []api.Op {
	out := slices.Clone(l)
	if len(out) == 0 {
		return out
	}
	i := c.IntN(len(out))
	switch c.IntN(6) {
	case 0:
		return slices.Delete(out, i, i+1)
	case 1:
		return slices.Insert(out, i, out[i])
	case 2:
		out[i].N += c.IntN(5) - 2
	case 3:
		out[i].Kind += c.IntN(5) - 2
	case 4:
		out[i].Text = strings.TrimSuffix(out[i].Text, "\n")
	default:
		out[i].Text = fileByChance(c, 1)[0]
	}
	return out
}

func TestListsByChance(t *testing.T) {
	c := rand.New(rand.NewPCG(10, 1))
	const times = 20000
	done, right, not := 0, 0, 0
	for range times {
		old := fileByChance(c, c.IntN(12))
		l := stepsByChance(c, old)
		hold(t, l)
		if undone(t, l, old) {
			done++
		}
		other := turn(c, l)
		undone(t, other, old)
		if hold(t, other) {
			right++
		} else {
			not++
		}
	}
	if done < times/2 || right < times/4 || not < times/4 {
		t.Errorf("P1001: %d are done, %d of those turned are right, %d are not: too few of one sort to tell anything", done, right, not)
	}
}

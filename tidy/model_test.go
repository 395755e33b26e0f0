package tidy_test

import (
	"math"
	"math/rand/v2"
	"slices"
	"strings"
	"testing"

	"patchwork/api"
	"patchwork/apply"
	"patchwork/ops"
	"patchwork/tidy"
)

// What is reckoned here slowly, by the words of the chapters, the package must answer.

// slowLong tells how long the longest row is that is in both.
func slowLong(a, b []string) int {
	// below[j]: that of what is left of a, without its first line, and of b from j on
	below := make([]int, len(b)+1)
	for i := len(a) - 1; i >= 0; i-- {
		here := make([]int, len(b)+1)
		for j := len(b) - 1; j >= 0; j-- {
			here[j] = max(below[j], here[j+1])
			if a[i] == b[j] {
				here[j] = max(here[j], 1+below[j+1])
			}
		}
		below = here
	}
	return below[0]
}

// slowDiff goes through both rows from the beginning on.
func slowDiff(a, b []string) []api.Op {
	var out []api.Op
	for len(a) > 0 || len(b) > 0 {
		switch {
		case len(a) > 0 && len(b) > 0 && a[0] == b[0]:
			out, a, b = append(out, keep(a[0])), a[1:], b[1:]
		case len(b) == 0 || len(a) > 0 && slowLong(a[1:], b) >= slowLong(a, b[1:]):
			out, a = append(out, del(a[0])), a[1:]
		default:
			out, b = append(out, ins(b[0])), b[1:]
		}
	}
	return out
}

// texts lists what the steps of some kinds have.
func texts(l []api.Op, kinds ...int) []string {
	var out []string
	for _, o := range l {
		if slices.Contains(kinds, o.Kind) {
			out = append(out, o.Text)
		}
	}
	return out
}

// slowOps cuts the steps at the Skips, and makes Skips that are side by side one.
func slowOps(l []api.Op) []api.Op {
	if !ops.Right(l) {
		return nil
	}
	var out []api.Op
	for len(l) > 0 {
		end := slices.IndexFunc(l, func(o api.Op) bool { return o.Kind == api.Skip })
		if end < 0 {
			end = len(l)
		}
		out = append(out, slowDiff(texts(l[:end], api.Keep, api.Del), texts(l[:end], api.Keep, api.Ins))...)
		l = l[end:]
		for ; len(l) > 0 && l[0].Kind == api.Skip; l = l[1:] {
			if len(out) > 0 && out[len(out)-1].Kind == api.Skip {
				out[len(out)-1].N += l[0].N
			} else {
				out = append(out, l[0])
			}
		}
	}
	return out
}

// slowIdle looks for what goes or comes.
func slowIdle(l []api.Op) bool {
	return len(texts(slowOps(l), api.Del, api.Ins)) == 0
}

// hold holds both calls against the slow ones, and against what follows from them; it tells whether l is right.
func hold(t *testing.T, l []api.Op) bool {
	t.Helper()
	got := tidy.Ops(l)
	if want := slowOps(l); !slices.Equal(got, want) {
		t.Errorf("P1301: Ops of %#v: %#v; wanted %#v", l, got, want)
	}
	if is := tidy.Idle(l); is != slowIdle(l) {
		t.Errorf("P1301: Idle of %#v: %v", l, is)
	}
	if !slices.Equal(ops.Norm(got), got) {
		t.Errorf("P1301: Ops of %#v: %#v is not as ops.Norm writes it", l, got)
	}
	if again := tidy.Ops(got); !slices.Equal(again, got) || tidy.Idle(got) != tidy.Idle(l) {
		t.Errorf("P1302: Ops of %#v: %#v; Ops of that: %#v", l, got, again)
	}
	if !ops.Right(l) {
		return false
	}
	if ops.Olds(got) != ops.Olds(l) || ops.News(got) != ops.News(l) || ops.Changes(got) > ops.Changes(l) {
		t.Errorf("P1302: Ops of %#v: %#v has other sides, or more Del and Ins", l, got)
	}
	return true
}

// done holds that what is tidied is done to old just if l is, and makes the same; it tells whether l can be done, and whether the lines stay as they are.
func done(t *testing.T, l []api.Op, old []string) (can, stay bool) {
	t.Helper()
	want, can := apply.Do(l, old)
	stay = slices.Equal(want, old)
	if !ops.Right(l) {
		return false, false
	}
	tidied := tidy.Ops(l)
	if got, is := apply.Do(tidied, old); is != can || !slices.Equal(got, want) {
		t.Errorf("P1302: %#v, of which %#v comes, done to %q: %q, %v; wanted %q, %v", l, tidied, old, got, is, want, can)
	}
	if can && !stay && tidy.Idle(l) {
		t.Errorf("P1302: %#v is idle, and makes %q of %q", l, want, old)
	}
	return can, stay
}

// lists answers every list of up to most of the things in of.
func lists[T any](of []T, most int) [][]T {
	out := [][]T{nil}
	for from := 0; most > 0; most-- {
		upTo := len(out)
		for _, l := range out[from:upTo] {
			for _, one := range of {
				out = append(out, append(slices.Clip(l), one))
			}
		}
		from = upTo
	}
	return out
}

func TestAllShortLists(t *testing.T) {
	for _, x := range []struct {
		of   []api.Op
		most int
	}{
		{steps(skip(1), skip(2), keep("a\n"), keep("z"), del("a\n"), del("z"), ins("a\n"), ins("z")), 5},
		{steps(keep("a\n"), keep("b\n"), del("a\n"), del("b\n"), ins("a\n"), ins("b\n")), 6},
		{steps(skip(1), keep("a\n"), del("a\n"), del("b\n"), ins("a\n"), ins("b\n")), 6},
		{steps(del("a\n"), del("b\n"), ins("a\n"), ins("b\n")), 8},
	} {
		for _, l := range lists(x.of, x.most) {
			hold(t, l)
		}
	}
}

func TestAllShortListsWithWrongSteps(t *testing.T) {
	for _, l := range lists(steps(
		skip(0), skip(1), skip(-1), skip(1<<30), skip(api.MaxNum-1), skip(api.MaxNum), skip(api.MaxNum+1), skip(math.MaxInt), skip(math.MinInt),
		keep("k\n"), del("k\n"), ins("k\n"), del("y"), ins("y"), keep(""), del(""), ins(""), del("a\nb"), ins("a\nb"), ins("\n\n"),
		api.Op{}, api.Op{Kind: 5, N: 1, Text: "a\n"}, api.Op{Kind: api.Skip, N: 1, Text: "a\n"}, api.Op{Kind: api.Del, N: 1, Text: "a\n"}, api.Op{Kind: api.Ins, N: -1, Text: "a\n"},
	), 3) {
		hold(t, l)
	}
}

// Every short list meets every file that is long enough to tell whether lines ever turn.
func TestAllShortListsDoneToAllShortFiles(t *testing.T) {
	var files [][]string
	for _, l := range lists(file("a\n", "b\n", "z"), 5) {
		if !slices.Contains(l[:max(len(l)-1, 0)], "z") {
			files = append(files, l)
		}
	}
	sorts := [2]int{}
	for _, l := range lists(steps(skip(1), keep("a\n"), keep("z"), del("a\n"), del("b\n"), del("z"), ins("a\n"), ins("b\n"), ins("z")), 4) {
		if !ops.Right(l) {
			continue
		}
		ever, turned := false, false
		for _, old := range files {
			can, stay := done(t, l, old)
			ever, turned = ever || can, turned || can && !stay
		}
		if !ever || turned == tidy.Idle(l) {
			t.Errorf("P1302: Idle of %#v: %v; some lines turn: %v, some can: %v", l, tidy.Idle(l), turned, ever)
		}
		if turned {
			sorts[0]++
		} else {
			sorts[1]++
		}
	}
	if sorts[0] < 1000 || sorts[1] < 30 {
		t.Errorf("P1302: %d turn something, %d do not: too few of one sort to tell anything", sorts[0], sorts[1])
	}
}

// fileByChance makes lines of a file.
func fileByChance(c *rand.Rand, n int) []string {
	var out []string
	for range n {
		out = append(out, strings.Repeat("x", c.IntN(2))+string(rune('a'+c.IntN(3)))+"\n")
	}
	if n > 0 && c.IntN(3) == 0 {
		out[n-1] = strings.TrimSuffix(out[n-1], "\n")
	}
	return out
}

// stepsByChance makes steps that can be done to these lines, mostly; in part they have no Skip.
func stepsByChance(c *rand.Rand, old []string) []api.Op {
	var l []api.Op
	from := c.IntN(2)
	for c.IntN(30) > 0 {
		switch n := from + c.IntN(5-from); {
		case n == 0 && len(old) > 0:
			many := 1 + c.IntN(len(old))
			l, old = append(l, skip(many)), old[many:]
		case n == 1:
			l = append(l, ins(fileByChance(c, 1)[0]))
			if len(old) > 0 {
				l[len(l)-1].Text = strings.TrimSuffix(l[len(l)-1].Text, "\n") + "\n"
			}
		case len(old) == 0:
		case n == 2:
			l, old = append(l, keep(old[0])), old[1:]
		default:
			l, old = append(l, del(old[0])), old[1:]
		}
	}
	return l
}

// idleByChance makes steps by which all that goes comes again ahead of the next Skip.
func idleByChance(c *rand.Rand, old []string) []api.Op {
	var l []api.Op
	gone, come := 0, 0 // how many lines of old are gone through, on either side
	for gone < len(old) || come < len(old) {
		switch n := c.IntN(6); {
		case n == 0 && gone == come:
			l, gone, come = append(l, skip(1)), gone+1, come+1
		case n == 1 && gone == come:
			l, gone, come = append(l, keep(old[gone])), gone+1, come+1
		case n < 4 && gone < len(old):
			l, gone = append(l, del(old[gone])), gone+1
		case n >= 4 && come < len(old):
			l, come = append(l, ins(old[come])), come+1
		}
	}
	return l
}

// turn turns one step into something else.
func turn(c *rand.Rand, l []api.Op) []api.Op {
	out := slices.Clone(l)
	if len(out) == 0 {
		return out
	}
	i := c.IntN(len(out))
	switch c.IntN(6) {
	case 0:
		return slices.Delete(out, i, i+1)
	case 1:
		return slices.Insert(out, i, out[i])
	case 2:
		out[i].N += c.IntN(5) - 2
	case 3:
		out[i].Kind += c.IntN(5) - 2
	case 4:
		out[i].Text = strings.TrimSuffix(out[i].Text, "\n")
	default:
		out[i].Text = fileByChance(c, 1)[0]
	}
	return out
}

func TestListsByChance(t *testing.T) {
	c := rand.New(rand.NewPCG(13, 1))
	const times = 10000
	can, less, right, not := 0, 0, 0, 0
	for range times {
		old := fileByChance(c, c.IntN(16))
		l := stepsByChance(c, old)
		hold(t, l)
		if is, _ := done(t, l, old); is {
			can++
		}
		if ops.Changes(tidy.Ops(l)) < ops.Changes(l) {
			less++
		}
		done(t, l, fileByChance(c, c.IntN(16)))
		other := turn(c, l)
		done(t, other, old)
		if hold(t, other) {
			right++
		} else {
			not++
		}
	}
	if can < times/2 || less < times/4 || right < times/4 || not < times/4 {
		t.Errorf("P1302: %d are done, of %d something is left out, %d of those turned are right, %d are not: too few of one sort to tell anything", can, less, right, not)
	}
}

func TestIdleListsByChance(t *testing.T) {
	c := rand.New(rand.NewPCG(13, 2))
	const times = 10000
	still, not := 0, 0
	for range times {
		old := fileByChance(c, 1+c.IntN(12))
		l := idleByChance(c, old)
		hold(t, l)
		if can, stay := done(t, l, old); !tidy.Idle(l) || !can || !stay {
			t.Errorf("P1302: %#v, by which all of %q goes and comes again: %v, %v, %v", l, old, tidy.Idle(l), can, stay)
		}
		other := turn(c, l)
		done(t, other, old)
		hold(t, other)
		switch {
		case !ops.Right(other):
		case tidy.Idle(other):
			still++
		default:
			not++
		}
	}
	if still < times/20 || not < times/4 {
		t.Errorf("P1302: %d of those turned are still idle, %d are not: too few of one sort to tell anything", still, not)
	}
}

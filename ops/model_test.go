package ops_test

import (
	"math"
	"math/big"
	"math/rand/v2"
	"slices"
	"strings"
	"testing"

	"patchwork/api"
	"patchwork/ops"
)

// What is reckoned here slowly, by the words of the chapter, the package must answer.

// slowSide lists what a side has.
func slowSide(l []api.Op, kinds ...int) []api.Op {
	var out []api.Op
	for _, o := range l {
		if slices.Contains(kinds, o.Kind) {
			out = append(out, o)
		}
	}
	return out
}

func slowOld(l []api.Op) []api.Op { return slowSide(l, api.Skip, api.Keep, api.Del) }
func slowNew(l []api.Op) []api.Op { return slowSide(l, api.Skip, api.Keep, api.Ins) }

// slowLines counts a side's lines, without any end to the numbers but the last.
func slowLines(side []api.Op) int {
	sum := new(big.Int)
	for _, o := range side {
		if o.Kind != api.Skip {
			sum.Add(sum, big.NewInt(1))
		} else if o.N > 0 {
			sum.Add(sum, big.NewInt(int64(o.N)))
		}
	}
	if most := big.NewInt(1 << 40); sum.Cmp(most) > 0 {
		sum = most
	}
	return int(sum.Int64())
}

// slowOpen tells whether something stands behind an open line of a side.
func slowOpen(side []api.Op) bool {
	for i, o := range side {
		if o.Kind != api.Skip && !strings.Contains(o.Text, "\n") && i < len(side)-1 {
			return true
		}
	}
	return false
}

func slowRight(l []api.Op) bool {
	for _, o := range l {
		ends := strings.Count(o.Text, "\n")
		isLine := o.Text != "" && (ends == 0 || ends == 1 && o.Text[len(o.Text)-1] == 10)
		isSkip := o.Kind == api.Skip && 1 <= o.N && o.N <= api.MaxNum && o.Text == ""
		if !isSkip && !(slices.Contains(lineKinds, o.Kind) && o.N == 0 && isLine) {
			return false
		}
	}
	for _, side := range [][]api.Op{slowOld(l), slowNew(l)} {
		if slowLines(side) > api.MaxNum || slowOpen(side) {
			return false
		}
	}
	return true
}

// slowNorm turns two neighbours at a time, as long as there are any to turn.
func slowNorm(l []api.Op) []api.Op {
	if !slowRight(l) {
		return nil
	}
	out := slices.Clone(l)
	for turned := true; turned; {
		turned = false
		for i := 0; i+1 < len(out); i++ {
			a, b := out[i], out[i+1]
			switch {
			case a.Kind == api.Skip && b.Kind == api.Skip:
				out = slices.Replace(out, i, i+2, skip(a.N+b.N))
				turned = true
			case a.Kind == api.Ins && b.Kind == api.Del:
				out[i], out[i+1] = b, a
				turned = true
			}
		}
	}
	return out
}

// hold holds all calls against the slow ones.
func hold(t *testing.T, l []api.Op) {
	t.Helper()
	if got := ops.Right(l); got != slowRight(l) {
		t.Errorf("P801: Right of %#v: %v", l, got)
	}
	if olds, news := ops.Olds(l), ops.News(l); olds != slowLines(slowOld(l)) || news != slowLines(slowNew(l)) {
		t.Errorf("P801: Olds, News of %#v: %d, %d", l, olds, news)
	}
	if got := ops.Changes(l); got != len(slowSide(l, api.Del, api.Ins)) {
		t.Errorf("P801: Changes of %#v: %d", l, got)
	}
	got := ops.Norm(l)
	if !slices.Equal(got, slowNorm(l)) {
		t.Errorf("P802: Norm of %#v: %#v", l, got)
	}
	if slowRight(l) && (!ops.Right(got) || !ops.Same(ops.Norm(got), got) || ops.Olds(got) != ops.Olds(l) || ops.News(got) != ops.News(l) || ops.Changes(got) != ops.Changes(l)) {
		t.Errorf("P802: Norm of %#v: %#v does something else", l, got)
	}
}

// lists calls do with every list of up to most of the steps in of.
func lists(of []api.Op, most int, do func(l []api.Op)) {
	var grow func(l []api.Op)
	grow = func(l []api.Op) {
		do(l)
		if len(l) == most {
			return
		}
		for _, o := range of {
			grow(append(slices.Clip(l), o))
		}
	}
	grow(nil)
}

func TestAllShortLists(t *testing.T) {
	lists(steps(skip(1), skip(2), keep("k\n"), keep("z"), del("d\n"), del("y"), ins("i\n"), ins("x")), 5, func(l []api.Op) { hold(t, l) })
}

func TestAllShortListsWithWrongSteps(t *testing.T) {
	lists(steps(
		skip(0), skip(1), skip(-1), skip(1<<30), skip(api.MaxNum-1), skip(api.MaxNum), skip(api.MaxNum+1), skip(math.MaxInt), skip(math.MinInt),
		keep("k\n"), del("d\n"), ins("i\n"), del("y"), ins("x"), keep(""), del("a\nb"), ins("\n\n"),
		api.Op{}, api.Op{Kind: 5, N: 1, Text: "a\n"}, api.Op{Kind: api.Skip, N: 1, Text: "a\n"}, api.Op{Kind: api.Keep, N: 1, Text: "a\n"}, api.Op{Kind: api.Ins, N: -1, Text: "a\n"},
	), 3, func(l []api.Op) { hold(t, l) })
}

// byChance makes steps that are right mostly, each line of another text.
func byChance(c *rand.Rand, n int) []api.Op {
	var out []api.Op
	for i := range n {
		text := strings.Repeat("x", c.IntN(3)) + string(rune('a'+i%26)) + "\n"
		switch c.IntN(4) {
		case 0:
			out = append(out, skip(1+c.IntN(3)))
		case 1:
			out = append(out, keep(text))
		case 2:
			out = append(out, del(text))
		default:
			out = append(out, ins(text))
		}
	}
	if n > 0 && c.IntN(2) == 0 {
		last := &out[n-1]
		last.Text = strings.TrimSuffix(last.Text, "\n")
	}
	if n > 0 && c.IntN(4) == 0 {
		one := &out[c.IntN(n)]
		*one = []api.Op{skip(api.MaxNum), skip(api.MaxNum - 5), skip(0), line(one.Kind, ""), line(one.Kind, "z"), line(one.Kind-1, one.Text), line(one.Kind+1, one.Text), {Kind: one.Kind, N: one.N + 1, Text: one.Text}}[c.IntN(8)]
	}
	return out
}

func TestListsByChance(t *testing.T) {
	c := rand.New(rand.NewPCG(8, 1))
	right := 0
	const times = 20000
	for range times {
		l := byChance(c, c.IntN(20))
		hold(t, l)
		if ops.Right(l) {
			right++
		}
	}
	if right < times/3 || right > times*95/100 {
		t.Errorf("P801: %d of %d lists are right: too few of one sort to tell anything", right, times)
	}
}

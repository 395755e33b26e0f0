package lcs_test

import (
	"math/rand/v2"
	"slices"
	"strconv"
	"testing"

	"patchwork/api"
	"patchwork/apply"
	"patchwork/lcs"
	"patchwork/ops"
)

// longs tells how long the longest common row is of what is left of both at all places, line by line.
func longs(a, b []string) [][]int32 {
	out := make([][]int32, len(a)+1)
	for i := range out {
		out[i] = make([]int32, len(b)+1)
	}
	for i := len(a) - 1; i >= 0; i-- {
		for j := len(b) - 1; j >= 0; j-- {
			out[i][j] = max(out[i+1][j], out[i][j+1])
			if a[i] == b[j] {
				out[i][j] = max(out[i][j], 1+out[i+1][j+1])
			}
		}
	}
	return out
}

// slow goes from the beginning on, by the words of the chapter; it answers the steps, and how long the longest common row is.
func slow(a, b []string) ([]api.Op, int) {
	var out []api.Op
	left := longs(a, b)
	i, j := 0, 0
	for i < len(a) || j < len(b) {
		switch {
		case i < len(a) && j < len(b) && a[i] == b[j] && left[i][j] == 1+left[i+1][j+1]:
			out = append(out, keep(a[i]))
			i, j = i+1, j+1
		case j == len(b) || i < len(a) && left[i+1][j] >= left[i][j+1]:
			out = append(out, del(a[i]))
			i++
		default:
			out = append(out, ins(b[j]))
			j++
		}
	}
	return out, int(left[0][0])
}

// hold holds both calls against the slow ones, and that the steps do what they must; it answers the steps.
func hold(t *testing.T, a, b []string) []api.Op {
	t.Helper()
	want, long := slow(a, b)
	if got := lcs.Len(a, b); got != long {
		t.Errorf("P1201: Len of %d lines %.200q and %d lines %.200q: %d; wanted %d", len(a), a, len(b), b, got, long)
	}
	l := lcs.Diff(a, b)
	if !slices.Equal(l, want) {
		t.Errorf("P1201: Diff of %d lines %.200q and %d lines %.200q is another one than by the words: %.20v; wanted %.20v", len(a), a, len(b), b, l, want)
	}
	if from, to := sides(l); !slices.Equal(from, a) || !slices.Equal(to, b) {
		t.Errorf("P1202: Diff of %d lines and %d: it is of other lines", len(a), len(b))
	}
	if got, ok := apply.Do(l, a); ops.Right(l) && (!ok || !slices.Equal(got, b)) {
		t.Errorf("P1202: Diff of %d lines and %d, done: %d lines, %v", len(a), len(b), len(got), ok)
	}
	if got := ops.Changes(l); got != len(a)+len(b)-2*long {
		t.Errorf("P1202: Diff of %d lines and %d, with %d in common: %d Del and Ins", len(a), len(b), long, got)
	}
	return l
}

// sides answers the lines that steps are of, and those that they make.
func sides(l []api.Op) (from, to []string) {
	for _, o := range l {
		if o.Kind != api.Ins {
			from = append(from, o.Text)
		}
		if o.Kind != api.Del {
			to = append(to, o.Text)
		}
	}
	return from, to
}

// lists answers every row of up to most of the lines in of.
func lists(of []string, most int) [][]string {
	out := [][]string{nil}
	for from := 0; most > 0; most-- {
		upTo := len(out)
		for _, l := range out[from:upTo] {
			for _, one := range of {
				out = append(out, append(slices.Clip(l), one))
			}
		}
		from = upTo
	}
	return out
}

func TestAllShortPairs(t *testing.T) {
	for _, x := range []struct {
		of   []string
		most int
	}{{row("a\n", "b\n", "c\n"), 5}, {row("a\n", "b\n"), 7}, {row("a\n", "b\n", "c\n", "d\n", "e\n"), 3}, {row("", "a", "a\n", "\n"), 3}} {
		l := lists(x.of, x.most)
		for _, a := range l {
			for _, b := range l {
				hold(t, a, b)
			}
		}
	}
}

// picked answers each row that is left of l when some lines are left out.
func picked(l []string) [][]string {
	var out [][]string
	for set := range 1 << len(l) {
		var some []string
		for i, line := range l {
			if set>>i&1 == 1 {
				some = append(some, line)
			}
		}
		out = append(out, some)
	}
	return out
}

// The longest row that is in both, found by trying all of them.
func TestAllRowsThatAreInBoth(t *testing.T) {
	l := lists(row("a\n", "b\n", "c\n"), 4)
	var rows [][][]string
	for _, a := range l {
		rows = append(rows, picked(a))
	}
	for i, a := range l {
		for j, b := range l {
			most := 0
			for _, one := range rows[i] {
				if slices.ContainsFunc(rows[j], func(other []string) bool { return slices.Equal(one, other) }) {
					most = max(most, len(one))
				}
			}
			if got := lcs.Len(a, b); got != most {
				t.Errorf("P1201: Len of %q and %q: %d; wanted %d", a, b, got, most)
			}
		}
	}
}

// rowByChance makes lines of so many sorts.
func rowByChance(c *rand.Rand, n, sorts int) []string {
	var out []string
	for range n {
		out = append(out, strconv.Itoa(c.IntN(sorts))+"\n")
	}
	return out
}

// edited answers the row with so many places turned.
func edited(c *rand.Rand, l []string, times int) []string {
	out := slices.Clone(l)
	for range times {
		at := c.IntN(len(out) + 1)
		some := out[at:min(len(out), at+c.IntN(4))]
		switch c.IntN(4) {
		case 0:
			out = slices.Delete(out, at, at+len(some))
		case 1:
			out = slices.Insert(out, at, slices.Clone(some)...)
		case 2:
			out = slices.Insert(out, at, rowByChance(c, 1+c.IntN(3), 5)...)
		default:
			slices.Reverse(some)
		}
	}
	return out
}

func TestRowsByChance(t *testing.T) {
	c := rand.New(rand.NewPCG(12, 1))
	const times = 1000
	kinds := [4]int{}
	both := 0 // rows where something goes and something comes side by side
	for range times {
		sorts := []int{1, 2, 3, 5, 20, 1000}[c.IntN(6)]
		a := rowByChance(c, c.IntN(150), sorts)
		for _, b := range [][]string{rowByChance(c, c.IntN(150), sorts), edited(c, a, c.IntN(10)), edited(c, a, 1), append(rowByChance(c, c.IntN(5), sorts), a...)} {
			l := hold(t, a, b)
			hold(t, b, a)
			for i, o := range l {
				kinds[o.Kind-1]++
				if i > 0 && o.Kind == api.Ins && l[i-1].Kind == api.Del {
					both++
				}
			}
		}
	}
	if kinds[api.Keep-1] < 100*times || kinds[api.Del-1] < 20*times || kinds[api.Ins-1] < 20*times || both < 2*times {
		t.Errorf("P1201: %v steps of each kind, %d rows that go and come: too few of one sort to tell anything", kinds, both)
	}
}

// Rows around the lengths of whole words of bits.
func TestRowsOfAllLengths(t *testing.T) {
	c := rand.New(rand.NewPCG(12, 2))
	for _, n := range []int{0, 1, 2, 62, 63, 64, 65, 66, 126, 127, 128, 129, 130, 191, 192, 193, 255, 256, 257} {
		for _, m := range []int{0, 1, 2, 30, 62, 63, 64, 65, 66, 127, 128, 129, 192, 256, 257, 400} {
			for _, sorts := range []int{1, 2, 4, 40} {
				hold(t, rowByChance(c, n, sorts), rowByChance(c, m, sorts))
			}
		}
	}
}

// Rows that are long, of few sorts of lines and of many, near to each other and not.
func TestLongRowsByChance(t *testing.T) {
	c := rand.New(rand.NewPCG(12, 3))
	for _, sorts := range []int{1, 2, 3, 10, 100, 100000} {
		for _, n := range [][2]int{{2000, 2000}, {3000, 500}, {500, 3000}} {
			hold(t, rowByChance(c, n[0], sorts), rowByChance(c, n[1], sorts))
		}
		for _, times := range []int{1, 5, 30, 200, 1000} {
			a := rowByChance(c, 1000, sorts)
			b := edited(c, a, times)
			hold(t, a, b)
			hold(t, b, a)
		}
	}
	// The same blocks in another order
	for range 20 {
		a := rowByChance(c, 800, 50)
		at, end := c.IntN(400), 400+c.IntN(400)
		hold(t, a, slices.Concat(a[end:], a[at:end], a[:at]))
		hold(t, a, slices.Concat(a[at:end], a[:at], a[end:]))
	}
}

// The steps from one row to another are those back, turned, in number.
func TestBackIsAsLong(t *testing.T) {
	c := rand.New(rand.NewPCG(12, 4))
	for range 300 {
		a := rowByChance(c, c.IntN(300), 1+c.IntN(8))
		b := rowByChance(c, c.IntN(300), 1+c.IntN(8))
		if lcs.Len(a, b) != lcs.Len(b, a) || ops.Changes(lcs.Diff(a, b)) != ops.Changes(lcs.Diff(b, a)) {
			t.Errorf("P1202: of %q and %q there is more one way than the other", a, b)
		}
	}
}

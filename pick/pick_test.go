package pick_test

import (
	"math"
	"slices"
	"strconv"
	"strings"
	"testing"

	"patchwork/api"
	"patchwork/apply"
	"patchwork/ops"
	"patchwork/pick"
)

// skip, keep, del, ins make steps, steps and file list them and lines.
func skip(n int) api.Op          { return api.Op{Kind: api.Skip, N: n} }
func keep(s string) api.Op       { return api.Op{Kind: api.Keep, Text: s} }
func del(s string) api.Op        { return api.Op{Kind: api.Del, Text: s} }
func ins(s string) api.Op        { return api.Op{Kind: api.Ins, Text: s} }
func steps(l ...api.Op) []api.Op { return l }
func file(l ...string) []string  { return l }

// drawn makes steps of pairs such as =a, -b and +c, and of digits, each so many lines that are not known.
func drawn(s string) []api.Op {
	var out []api.Op
	for s != "" {
		if n, err := strconv.Atoi(s[:1]); err == nil {
			out, s = append(out, skip(n)), s[1:]
			continue
		}
		kind := map[byte]int{'=': api.Keep, '-': api.Del, '+': api.Ins}[s[0]]
		out, s = append(out, api.Op{Kind: kind, Text: s[1:2] + "\n"}), s[2:]
	}
	return out
}

// marked makes picks of a text with an x for each that is picked.
func marked(s string) []bool {
	var out []bool
	for _, c := range s {
		out = append(out, c == 'x')
	}
	return out
}

// wantPicked holds Ops against what must come.
func wantPicked(t *testing.T, l []api.Op, picks string, first, second []api.Op) {
	t.Helper()
	one, two := pick.Ops(l, marked(picks))
	if !slices.Equal(one, first) || !slices.Equal(two, second) {
		t.Errorf("P1601: Ops of %#v and %q: %#v, %#v; wanted %#v, %#v", l, picks, one, two, first, second)
	}
}

// wantNothing holds that Ops answers nothing.
func wantNothing(t *testing.T, l []api.Op, picks string) {
	t.Helper()
	wantPicked(t, l, picks, nil, nil)
}

// wantUntold holds that of steps that are ops.Right nothing is told, as the first or the second would not be.
func wantUntold(t *testing.T, l []api.Op, picks string) {
	t.Helper()
	if !ops.Right(l) {
		t.Errorf("%#v is not right: no test of what is", l)
	}
	wantNothing(t, l, picks)
}

func TestNone(t *testing.T) {
	for _, l := range [][]api.Op{nil, {}, make([]api.Op, 0, 3), steps(del("a\n"), ins("b\n"))[:0]} {
		for _, picks := range []string{"", ".", "x", "x.x"} {
			wantNothing(t, l, picks)
		}
		if got := pick.Rows(l); len(got) != 0 {
			t.Errorf("P1601: Rows of none: %v", got)
		}
	}
}

func TestPicked(t *testing.T) {
	for _, x := range []struct{ l, picks, first, second string }{
		// No change
		{"1", "", "1", "1"},
		{"1", "x", "1", "1"},
		{"=a", "", "=a", "=a"},
		{"=a", "x", "=a", "=a"},
		{"12=a3", "xx", "3=a3", "3=a3"},
		// One
		{"-a", "x", "-a", ""},
		{"-a", ".", "=a", "-a"},
		{"+a", "x", "+a", "=a"},
		{"+a", ".", "", "+a"},
		{"2-a3", "x", "2-a3", "5"},
		{"2-a3", ".", "2=a3", "2-a3"},
		{"2+a3", "x", "2+a3", "2=a3"},
		{"2+a3", ".", "5", "2+a3"},
		{"=k-a=l", "x", "=k-a=l", "=k=l"},
		{"=k-a=l", ".", "=k=a=l", "=k-a=l"},
		{"=k+a=l", "x", "=k+a=l", "=k=a=l"},
		{"=k+a=l", ".", "=k=l", "=k+a=l"},
		// A Del and an Ins of one row
		{"-a+b", "", "=a", "-a+b"},
		{"-a+b", ".", "=a", "-a+b"},
		{"-a+b", "..", "=a", "-a+b"},
		{"-a+b", "x", "-a", "+b"},
		{"-a+b", "x.", "-a", "+b"},
		{"-a+b", ".x", "=a+b", "-a=b"},
		{"-a+b", "xx", "-a+b", "=b"},
		{"-a+a", ".x", "=a+a", "-a=a"},
		{"-a+a", "x.", "-a", "+a"},
		// Two of one kind
		{"-a-b", "x.", "-a=b", "-b"},
		{"-a-b", ".x", "=a-b", "-a"},
		{"+a+b", "x.", "+a", "=a+b"},
		{"+a+b", ".x", "+b", "+a=b"},
		{"-a-b", "xx", "-a-b", ""},
		{"+a+b", "xx", "+a+b", "=a=b"},
		{"-a-b", "..", "=a=b", "-a-b"},
		{"+a+b", "..", "", "+a+b"},
		// The i-th is that of ops.Norm
		{"+b-a", "x", "-a", "+b"},
		{"+b-a", ".x", "=a+b", "-a=b"},
		{"+a-b+c-d", "x", "-b=d", "-d+a+c"},
		{"+a-b+c-d", ".x", "=b-d", "-b+a+c"},
		{"+a-b+c-d", "..x", "=b=d+a", "-b-d=a+c"},
		{"+a-b+c-d", "...x", "=b=d+c", "-b-d+a=c"},
		{"+b-a=k+d-c", "x.x", "-a=k-c", "+b=k+d"},
		{"1+b-a1+d-c", ".x.x", "1=a+b1=c+d", "1-a=b1-c=d"},
		{"11-a22", "x", "2-a4", "6"},
		{"11+a22", ".", "6", "2+a4"},
		// Rows with lines between
		{"-a1-b", "x.", "-a1=b", "1-b"},
		{"-a1-b", ".x", "=a1-b", "-a1"},
		{"+a1+b", "x.", "+a1", "=a1+b"},
		{"+a1+b", ".x", "1+b", "+a1=b"},
		{"-a+x=k-b+y", "xx..", "-a+x=k=b", "=x=k-b+y"},
		{"-a+x=k-b+y", "..xx", "=a=k-b+y", "-a+x=k=y"},
		{"-a+x=k-b+y", "x..x", "-a=k=b+y", "+x=k-b=y"},
		{"-a+x=k-b+y", ".xx.", "=a+x=k-b", "-a=x=k+y"},
		{"3-a-b+x2=k+y+z=l-c4", "x.x.x.", "3-a=b+x2=k+z=l=c4", "3-b=x2=k+y=z=l-c4"},
		{"3-a-b+x2=k+y+z=l-c4", ".x.x.x", "3=a-b2=k+y=l-c4", "3-a+x2=k=y+z=l4"},
		// Skips that come side by side are one
		{"1-a2", "x", "1-a2", "3"},
		{"1+a2+b3", "..", "6", "1+a2+b3"},
		{"1+a2+b3", ".x", "3+b3", "1+a2=b3"},
		{"1+a2+b3", "x.", "1+a5", "1=a2+b3"},
		{"1-a2-b3", "x.", "1-a2=b3", "3-b3"},
		{"1-a+x2", "x.", "1-a2", "1+x2"},
		{"1-a+x2", ".x", "1=a+x2", "1-a=x2"},
		{"1-a=k+x2", "x.", "1-a=k2", "1=k+x2"},
	} {
		wantPicked(t, drawn(x.l), x.picks, drawn(x.first), drawn(x.second))
		// Those that picks has not are left, and those that there are not pick nothing.
		l := drawn(x.l)
		short := strings.TrimRight(x.picks, ".")
		full := x.picks + strings.Repeat(".", max(0, ops.Changes(l)-len(x.picks)))
		for _, picks := range []string{short, full, full + ".", full + "x", full + "xxxx.x", full + strings.Repeat("x", 1000)} {
			wantPicked(t, l, picks, drawn(x.first), drawn(x.second))
		}
	}
}

// Picked alone, left alone: of several rows each change in turn.
func TestEachAlone(t *testing.T) {
	l := drawn("2-a-b+x+y=k-c3+z=m")
	for i, x := range []struct{ alone, rest, others, left string }{
		{"2-a=b=k=c3=m", "2-b+x+y=k-c3+z=m", "2=a-b+x+y=k-c3+z=m", "2-a=x=y=k3=z=m"},
		{"2=a-b=k=c3=m", "2-a+x+y=k-c3+z=m", "2-a=b+x+y=k-c3+z=m", "2-b=x=y=k3=z=m"},
		{"2=a=b+x=k=c3=m", "2-a-b=x+y=k-c3+z=m", "2-a-b+y=k-c3+z=m", "2+x=y=k3=z=m"},
		{"2=a=b+y=k=c3=m", "2-a-b+x=y=k-c3+z=m", "2-a-b+x=k-c3+z=m", "2=x+y=k3=z=m"},
		{"2=a=b=k-c3=m", "2-a-b+x+y=k3+z=m", "2-a-b+x+y=k=c3+z=m", "2=x=y=k-c3=z=m"},
		{"2=a=b=k=c3+z=m", "2-a-b+x+y=k-c3=z=m", "2-a-b+x+y=k-c3=m", "2=x=y=k3+z=m"},
	} {
		wantPicked(t, l, strings.Repeat(".", i)+"x", drawn(x.alone), drawn(x.rest))
		wantPicked(t, l, strings.Repeat("x", i)+"."+strings.Repeat("x", 5-i), drawn(x.others), drawn(x.left))
	}
	wantPicked(t, l, "", drawn("2=a=b=k=c3=m"), l)
	wantPicked(t, l, "xxxxxx", l, drawn("2=x=y=k3=z=m"))
}

// Behind an open line there is none: what can't be first can't be told, and what could is not told, too.
func TestOpenLines(t *testing.T) {
	a := "a\n"
	for _, x := range []struct {
		l             []api.Op
		picks         string
		first, second []api.Op
	}{
		{steps(keep("z")), "x", steps(keep("z")), steps(keep("z"))},
		// On the old side
		{steps(del("z")), "x", steps(del("z")), nil},
		{steps(del("z")), ".", steps(keep("z")), steps(del("z"))},
		{steps(del("z"), ins(a)), "xx", steps(del("z"), ins(a)), steps(keep(a))},
		{steps(del("z"), ins(a)), "x.", steps(del("z")), steps(ins(a))},
		{steps(del("z"), ins(a)), "..", steps(keep("z")), steps(del("z"), ins(a))},
		{steps(ins(a), del("z")), "x.", steps(del("z")), steps(ins(a))},
		{steps(del(a), del("z")), "x.", steps(del(a), keep("z")), steps(del("z"))},
		{steps(del(a), del("z")), ".x", steps(keep(a), del("z")), steps(del(a))},
		{steps(ins(a), keep(a), del("z")), "x.", steps(ins(a), keep(a), keep("z")), steps(keep(a), keep(a), del("z"))},
		{steps(ins(a), keep(a), del("z")), ".x", steps(keep(a), del("z")), steps(ins(a), keep(a))},
		// On the new side
		{steps(ins("z")), "x", steps(ins("z")), steps(keep("z"))},
		{steps(ins("z")), ".", nil, steps(ins("z"))},
		{steps(del(a), ins("z")), "x.", steps(del(a)), steps(ins("z"))},
		{steps(del(a), ins("z")), ".x", steps(keep(a), ins("z")), steps(del(a), keep("z"))},
		{steps(ins("z"), del(a)), ".x", steps(keep(a), ins("z")), steps(del(a), keep("z"))},
		{steps(ins(a), ins("z")), "x.", steps(ins(a)), steps(keep(a), ins("z"))},
		{steps(ins(a), ins("z")), ".x", steps(ins("z")), steps(ins(a), keep("z"))},
		{steps(skip(1), ins("z")), ".", steps(skip(1)), steps(skip(1), ins("z"))},
		{steps(skip(1), ins("z")), "x", steps(skip(1), ins("z")), steps(skip(1), keep("z"))},
		// On both
		{steps(ins(a), keep("z")), "x", steps(ins(a), keep("z")), steps(keep(a), keep("z"))},
		{steps(ins(a), keep("z")), ".", steps(keep("z")), steps(ins(a), keep("z"))},
		{steps(del(a), keep("z")), "x", steps(del(a), keep("z")), steps(keep("z"))},
		{steps(del("z"), ins("y")), "xx", steps(del("z"), ins("y")), steps(keep("y"))},
		{steps(del("z"), ins("y")), "x.", steps(del("z")), steps(ins("y"))},
		{steps(del("z"), ins("y")), "..", steps(keep("z")), steps(del("z"), ins("y"))},
		{steps(ins("y"), del("z")), "x.", steps(del("z")), steps(ins("y"))},
		{steps(del("z"), ins("z")), "x.", steps(del("z")), steps(ins("z"))},
		{steps(del("z"), ins(a), ins("y")), "x..", steps(del("z")), steps(ins(a), ins("y"))},
		{steps(del("z"), ins(a), ins("y")), "xx.", steps(del("z"), ins(a)), steps(keep(a), ins("y"))},
		{steps(del("z"), ins(a), ins("y")), "x.x", steps(del("z"), ins("y")), steps(ins(a), keep("y"))},
	} {
		wantPicked(t, x.l, x.picks, x.first, x.second)
		// With changes ahead, one of which is picked
		ahead := steps(skip(7), del("p\n"), ins("q\n"), keep("k\n"))
		one, two := steps(skip(7), del("p\n"), keep("k\n")), steps(skip(7), ins("q\n"), keep("k\n"))
		wantPicked(t, slices.Concat(ahead, x.l), "x."+x.picks, slices.Concat(one, x.first), slices.Concat(two, x.second))
	}
	for _, x := range []struct {
		l     []api.Op
		picks string
	}{
		{steps(del("z"), ins("y")), ".x"},
		{steps(ins("y"), del("z")), ".x"},
		{steps(del("z"), ins("z")), ".x"},
		{steps(del("z"), ins(a)), ".x"},
		{steps(ins(a), del("z")), ".x"},
		{steps(del("z"), ins("z\n")), ".x"},
		{steps(del("z"), ins(a), ins("y")), ".x."},
		{steps(del("z"), ins(a), ins("y")), "..x"},
		{steps(del("z"), ins(a), ins("y")), ".xx"},
		{steps(del(a), del("z"), ins("y")), "x.x"},
		{steps(del(a), del("z"), ins("y")), "..x"},
	} {
		wantUntold(t, x.l, x.picks)
		wantUntold(t, slices.Concat(drawn("7-p+q=k"), x.l), "x."+x.picks)
		wantUntold(t, slices.Concat(drawn("7-p+q=k"), x.l), "xx"+x.picks)
		wantUntold(t, slices.Concat(drawn("7-p+q=k"), x.l), ".."+x.picks)
	}
}

// What is left and what is picked may be more lines than a side has.
func TestLongSides(t *testing.T) {
	const most = api.MaxNum
	a, b := "a\n", "b\n"
	for _, x := range []struct {
		l             []api.Op
		picks         string
		first, second []api.Op
	}{
		{steps(skip(most)), "x", steps(skip(most)), steps(skip(most))},
		{steps(skip(most-1), del(a)), "x", steps(skip(most-1), del(a)), steps(skip(most - 1))},
		{steps(skip(most-1), del(a)), ".", steps(skip(most-1), keep(a)), steps(skip(most-1), del(a))},
		{steps(ins(a), skip(most-1)), "x", steps(ins(a), skip(most-1)), steps(keep(a), skip(most-1))},
		{steps(ins(a), skip(most-1)), ".", steps(skip(most - 1)), steps(ins(a), skip(most-1))},
		{steps(del(a), ins(b), skip(most-1)), "xx", steps(del(a), ins(b), skip(most-1)), steps(keep(b), skip(most-1))},
		{steps(del(a), ins(b), skip(most-1)), "x.", steps(del(a), skip(most-1)), steps(ins(b), skip(most-1))},
		{steps(del(a), ins(b), skip(most-1)), "..", steps(keep(a), skip(most-1)), steps(del(a), ins(b), skip(most-1))},
		{steps(del(a), ins(b), skip(most-2)), ".x", steps(keep(a), ins(b), skip(most-2)), steps(del(a), keep(b), skip(most-2))},
		{steps(ins(b), skip(most-2), del(a)), "x.", steps(ins(b), skip(most-2), keep(a)), steps(keep(b), skip(most-2), del(a))},
		{steps(ins(b), skip(most-1), del(a)), ".x", steps(skip(most-1), del(a)), steps(ins(b), skip(most-1))},
		{slices.Repeat(steps(skip(1<<16)), 1<<15), "", steps(skip(most)), steps(skip(most))},
	} {
		wantPicked(t, x.l, x.picks, x.first, x.second)
	}
	for _, x := range []struct {
		l     []api.Op
		picks string
	}{
		{steps(del(a), ins(b), skip(most-1)), ".x"},
		{steps(del(a), skip(most-1), ins(b)), ".x"},
		{steps(ins(b), skip(most-1), del(a)), "x."},
		{steps(del(a), del(a), ins(b), ins(b), skip(most-2)), ".xxx"},
		{steps(del(a), del(a), ins(b), ins(b), skip(most-2)), "..x."},
		{steps(del(a), del(a), ins(b), skip(most-2)), "..x"},
		{steps(del(a), ins(b), ins(b), skip(most-2)), ".xx"},
		{steps(skip(most-1), del("z"), ins("y")), ".x"},
	} {
		wantUntold(t, x.l, x.picks)
	}
}

// wrong lists steps that can't be, whatever stands beside them.
func wrong() []api.Op {
	out := steps(
		skip(0), skip(-1), skip(api.MaxNum+1), skip(1<<32+1), skip(math.MaxInt), skip(math.MinInt),
		api.Op{Kind: api.Skip, N: 1, Text: "a\n"}, api.Op{Kind: api.Skip, N: 1, Text: "\x00"},
	)
	for _, kind := range []int{api.Keep, api.Del, api.Ins} {
		for _, text := range []string{"", "\n\n", "\na", "a\nb", "a\nb\n", "a\n\n"} {
			out = append(out, api.Op{Kind: kind, Text: text})
		}
		for _, n := range []int{1, -1, api.MaxNum, 1 << 32, math.MaxInt, math.MinInt} {
			out = append(out, api.Op{Kind: kind, N: n, Text: "a\n"})
		}
	}
	for _, kind := range []int{0, -1, 5, -api.Del, -api.Ins, 1<<8 + api.Del, 1<<32 + api.Ins, 1<<32 + api.Skip, math.MaxInt, math.MinInt} {
		out = append(out, api.Op{Kind: kind}, api.Op{Kind: kind, N: 1}, api.Op{Kind: kind, Text: "a\n"})
	}
	return out
}

// wantWrong holds that of steps that are not ops.Right nothing is told, whatever is picked.
func wantWrong(t *testing.T, l ...api.Op) {
	t.Helper()
	if ops.Right(l) {
		t.Errorf("%#v is right: no test of what is not", l)
	}
	for _, picks := range []string{"", ".", "x", "x.", ".x", "xx", "x.x.x.x", ".x.x.x.x", "xxxxxxxxxx"} {
		wantNothing(t, l, picks)
	}
}

// A step that is wrong is found wherever it stands, picked or not.
func TestStepsThatAreWrongAlone(t *testing.T) {
	all := steps(skip(2), keep("a\n"), del("b\n"), ins("c\n"), skip(1), ins("d\n"), del("e\n"), keep("f\n"))
	for _, w := range wrong() {
		wantWrong(t, w)
		for i := 0; i <= len(all); i++ {
			wantWrong(t, slices.Insert(slices.Clone(all), i, w)...)
		}
	}
}

// What could be told of the first, and of the second, is not: l itself is wrong.
func TestStepsThatAreWrongTogether(t *testing.T) {
	const most = api.MaxNum
	a := "a\n"
	for _, behind := range steps(skip(1), keep(a), keep("z"), del(a), del("z"), ins(a), ins("z")) {
		wantWrong(t, keep("z"), behind)
		if behind.Kind != api.Ins {
			wantWrong(t, del("z"), behind)
			wantWrong(t, del("z"), ins(a), behind)
		}
		if behind.Kind != api.Del {
			wantWrong(t, ins("z"), behind)
			wantWrong(t, ins("z"), del(a), behind)
		}
	}
	for _, l := range [][]api.Op{
		{skip(most), skip(1)},
		{skip(most), keep(a)},
		{skip(most), del(a)},
		{skip(most), ins(a)},
		{del(a), ins(a), skip(most - 1), del(a)},
		{ins(a), skip(most - 1), ins(a)},
		slices.Repeat(steps(skip(most)), 2),
		slices.Repeat(steps(skip(most)), 1<<10),
	} {
		wantWrong(t, l...)
	}
}

// numbered makes ranges of pairs of numbers.
func numbered(n ...int) []api.Range {
	var out []api.Range
	for i := 0; i < len(n); i += 2 {
		out = append(out, api.Range{From: n[i], To: n[i+1]})
	}
	return out
}

// wantRows holds Rows against what must come.
func wantRows(t *testing.T, l []api.Op, want ...int) {
	t.Helper()
	if got := pick.Rows(l); !slices.Equal(got, numbered(want...)) {
		t.Errorf("P1601: Rows of %#v: %v; wanted %v", l, got, numbered(want...))
	}
}

func TestRows(t *testing.T) {
	for _, x := range []struct {
		l    string
		want []int
	}{
		// No change
		{"1", nil},
		{"=a", nil},
		{"3=a=b2", nil},
		// One
		{"-a", []int{0, 0}},
		{"+a", []int{0, 0}},
		{"2-a", []int{0, 0}},
		{"=k+a", []int{0, 0}},
		{"-a2", []int{0, 0}},
		{"+a=k", []int{0, 0}},
		{"2-a3", []int{0, 0}},
		// All in one row
		{"-a+b", []int{0, 1}},
		{"+b-a", []int{0, 1}},
		{"-a-b", []int{0, 1}},
		{"+a+b", []int{0, 1}},
		{"-a-b+c", []int{0, 2}},
		{"+c-a+d-b+e", []int{0, 4}},
		{"3-a+b+c2", []int{0, 2}},
		{"=k-a+b+c=l", []int{0, 2}},
		// With lines between
		{"-a1-b", []int{0, 0, 1, 1}},
		{"-a=k-b", []int{0, 0, 1, 1}},
		{"+a1+b", []int{0, 0, 1, 1}},
		{"+a=k-b", []int{0, 0, 1, 1}},
		{"-a1=k2+b", []int{0, 0, 1, 1}},
		{"-a11+b", []int{0, 0, 1, 1}},
		{"-a+b=k-c", []int{0, 1, 2, 2}},
		{"-a=k+b-c", []int{0, 0, 1, 2}},
		{"1-a+b=k-c+d+e2-f", []int{0, 1, 2, 4, 5, 5}},
		{"=k-a1-b1-c=l+d+e", []int{0, 0, 1, 1, 2, 2, 3, 4}},
		// At the very beginning, at the very end
		{"-a-b5=k2", []int{0, 1}},
		{"5=k2+a+b", []int{0, 1}},
		{"-a-b5+a+b", []int{0, 1, 2, 3}},
	} {
		wantRows(t, drawn(x.l), x.want...)
	}
}

// Rows asks of no step whether it can be: what is no Del or Ins stands between, what is counts.
func TestRowsOfWrongSteps(t *testing.T) {
	for _, w := range wrong() {
		if w.Kind == api.Del || w.Kind == api.Ins {
			wantRows(t, steps(w), 0, 0)
			wantRows(t, steps(w, w, w), 0, 2)
			wantRows(t, steps(del("a\n"), w, ins("b\n")), 0, 2)
			wantRows(t, steps(w, skip(1), w), 0, 0, 1, 1)
			continue
		}
		wantRows(t, steps(w))
		wantRows(t, steps(w, w))
		wantRows(t, steps(del("a\n"), w, ins("b\n")), 0, 0, 1, 1)
		wantRows(t, steps(w, del("a\n"), ins("b\n"), w, w, ins("c\n"), w), 0, 1, 2, 2)
	}
	wantRows(t, steps(del("a"), ins("b"), ins("c"), keep("z"), del("d")), 0, 2, 3, 3)
	wantRows(t, steps(skip(api.MaxNum), del("d\n"), skip(api.MaxNum), ins("d\n"), ins("d\n")), 0, 0, 1, 2)
}

// The changes of one row, picked, and the others.
func TestRowByRow(t *testing.T) {
	l := drawn("1-a+b=k-c+d+e2-f")
	for i, x := range []struct{ first, second string }{
		{"1-a+b=k=c2=f", "1=b=k-c+d+e2-f"},
		{"1=a=k-c+d+e2=f", "1-a+b=k=d=e2-f"},
		{"1=a=k=c2-f", "1-a+b=k-c+d+e2"},
	} {
		row := pick.Rows(l)[i]
		wantPicked(t, l, strings.Repeat(".", row.From)+strings.Repeat("x", row.To-row.From+1), drawn(x.first), drawn(x.second))
	}
}

// wantDone holds that what is picked makes one of old, and the others young of that, as all do of old.
func wantDone(t *testing.T, l []api.Op, picks string, old, one, young []string) {
	t.Helper()
	if want, ok := apply.Do(l, old); !ok || !slices.Equal(want, young) {
		t.Errorf("%#v, done to %q: %q, %v; wanted %q", l, old, want, ok, young)
	}
	first, second := pick.Ops(l, marked(picks))
	between, ok := apply.Do(first, old)
	got, is := apply.Do(second, between)
	if !ok || !is || !slices.Equal(between, one) || !slices.Equal(got, young) {
		t.Errorf("P1602: Ops of %#v and %q: %#v, %#v; done to %q: %q, %q; wanted %q, %q", l, picks, first, second, old, between, got, one, young)
	}
}

func TestSomeAndThenTheRest(t *testing.T) {
	abc, abz := file("a\n", "b\n", "c\n"), file("a\n", "b\n", "z")
	for _, x := range []struct {
		l               []api.Op
		picks           string
		old, one, young []string
	}{
		{nil, "x", nil, nil, nil},
		{steps(skip(3)), "", abz, abz, abz},
		{drawn("1-b"), "x", abc, file("a\n", "c\n"), file("a\n", "c\n")},
		{drawn("1-b"), ".", abc, abc, file("a\n", "c\n")},
		{drawn("-a1-c"), "x.", abc, file("b\n", "c\n"), file("b\n")},
		{drawn("-a1-c"), ".x", abc, file("a\n", "b\n"), file("b\n")},
		{drawn("+y-a+x"), "x", abc, file("b\n", "c\n"), file("y\n", "x\n", "b\n", "c\n")},
		{drawn("+y-a+x"), ".x", abc, file("a\n", "y\n", "b\n", "c\n"), file("y\n", "x\n", "b\n", "c\n")},
		{drawn("-a+x1-c+y"), ".xx.", abc, file("a\n", "x\n", "b\n"), file("x\n", "b\n", "y\n")},
		{steps(del("a\n"), skip(1), del("z"), ins("z\n")), ".xx", abz, file("a\n", "b\n", "z\n"), file("b\n", "z\n")},
		{steps(del("a\n"), skip(1), del("z"), ins("z\n")), "xx", abz, file("b\n"), file("b\n", "z\n")},
		{steps(del("a\n"), skip(1), del("z"), ins("z\n")), "x", abz, file("b\n", "z"), file("b\n", "z\n")},
		{steps(skip(3), ins("z")), ".", abc, abc, file("a\n", "b\n", "c\n", "z")},
		{steps(ins("z")), "x", nil, file("z"), file("z")},
		{steps(ins("y\n"), ins("z")), ".x", nil, file("z"), file("y\n", "z")},
	} {
		wantDone(t, x.l, x.picks, x.old, x.one, x.young)
	}
}

func TestAnyBytes(t *testing.T) {
	var l, first, second []api.Op
	picks := ""
	for b := range 256 {
		if b == '\n' {
			continue // no line has it amid its bytes
		}
		line, other := string([]byte{byte(b), 0xff, 0, '\n'}), string([]byte{0xfe, byte(b), '\n'})
		l = append(l, skip(b+1), del(line), ins(other), ins(line), keep(line), del(other))
		picks += ".x.x"
		first = append(first, skip(b+1), keep(line), ins(other), keep(line), del(other))
		second = append(second, skip(b+1), del(line), keep(other), ins(line), keep(line))
	}
	wantPicked(t, l, picks, first, second)
	long := strings.Repeat("x", 1<<22)
	wantPicked(t, steps(del(long), ins(long+"y")), "x", steps(del(long)), steps(ins(long+"y")))
	wantPicked(t, steps(keep(long+"\n"), ins(long)), ".", steps(keep(long+"\n")), steps(keep(long+"\n"), ins(long)))
}

// Many steps take no more than their number: each is looked at a few times.
func TestManySteps(t *testing.T) {
	const n = 100000
	many := func(s string) []api.Op { return slices.Repeat(drawn(s), n) }
	for i, x := range []struct {
		l             []api.Op
		picks         string
		first, second []api.Op
		rows          int
	}{
		{many("1"), "", steps(skip(n)), steps(skip(n)), 0},
		{many("-a"), "", many("=a"), many("-a"), 1},
		{many("-a"), strings.Repeat("x", n), many("-a"), nil, 1},
		{many("+a"), "", nil, many("+a"), 1},
		{many("+a"), strings.Repeat("x", n), many("+a"), many("=a"), 1},
		{many("+a1"), "", steps(skip(n)), many("+a1"), n},
		{many("-a+b1"), strings.Repeat(".x", n), many("=a+b1"), many("-a=b1"), n},
		{many("+b-a"), strings.Repeat("x", n), many("-a"), many("+b"), 1},
		{many("-a=k"), strings.Repeat("x.", n/2), slices.Repeat(drawn("-a=k=a=k"), n/2), slices.Repeat(drawn("=k-a=k"), n/2), n},
	} {
		first, second := pick.Ops(x.l, marked(x.picks))
		if !slices.Equal(first, x.first) || !slices.Equal(second, x.second) {
			t.Errorf("P1601: Ops %d of %d steps: %d, %d", i, len(x.l), len(first), len(second))
		}
		rows := pick.Rows(x.l)
		next := 0
		for _, r := range rows {
			if r.From != next || r.To < r.From {
				t.Errorf("P1601: Rows %d of %d steps: %v behind %d", i, len(x.l), r, next)
			}
			next = r.To + 1
		}
		if len(rows) != x.rows || next != ops.Changes(x.l) {
			t.Errorf("P1601: Rows %d of %d steps: %d, %d changes", i, len(x.l), len(rows), next)
		}
	}
}

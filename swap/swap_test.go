package swap_test

import (
	"math"
	"slices"
	"strconv"
	"strings"
	"testing"

	"patchwork/api"
	"patchwork/apply"
	"patchwork/compose"
	"patchwork/ops"
	"patchwork/swap"
)

// skip, keep, del, ins make steps, steps and file list them and lines.
func skip(n int) api.Op          { return api.Op{Kind: api.Skip, N: n} }
func keep(s string) api.Op       { return api.Op{Kind: api.Keep, Text: s} }
func del(s string) api.Op        { return api.Op{Kind: api.Del, Text: s} }
func ins(s string) api.Op        { return api.Op{Kind: api.Ins, Text: s} }
func steps(l ...api.Op) []api.Op { return l }
func file(l ...string) []string  { return l }

// drawn makes steps of pairs such as =a, -b and +c, and of digits, each so many lines that are not known.
func drawn(s string) []api.Op {
	var out []api.Op
	for s != "" {
		if n, err := strconv.Atoi(s[:1]); err == nil {
			out, s = append(out, skip(n)), s[1:]
			continue
		}
		kind := map[byte]int{'=': api.Keep, '-': api.Del, '+': api.Ins}[s[0]]
		out, s = append(out, api.Op{Kind: kind, Text: s[1:2] + "\n"}), s[2:]
	}
	return out
}

// wantSwapped holds Ops against what must come.
func wantSwapped(t *testing.T, p, q, first, second []api.Op) {
	t.Helper()
	one, two, e := swap.Ops(p, q)
	if e != api.OK || !slices.Equal(one, first) || !slices.Equal(two, second) {
		t.Errorf("P1501: Ops of %#v and %#v: %#v, %#v, %v; wanted %#v, %#v", p, q, one, two, e, first, second)
	}
}

// wantErr holds that Ops tells an error, and nothing else.
func wantErr(t *testing.T, want api.Errno, p, q []api.Op) {
	t.Helper()
	if one, two, e := swap.Ops(p, q); e != want || len(one)+len(two) != 0 {
		t.Errorf("P1501: Ops of %#v and %#v: %#v, %#v, %v; wanted error %v", p, q, one, two, e, want)
	}
}

func TestNoneAndNone(t *testing.T) {
	nones := [][]api.Op{nil, {}, make([]api.Op, 0, 3), steps(del("a\n"), ins("b\n"))[:0]}
	for _, p := range nones {
		for _, q := range nones {
			wantSwapped(t, p, q, nil, nil)
		}
	}
}

// Beside nothing a change is the same, and to the other one its lines are there or not.
func TestOneSideAlone(t *testing.T) {
	for _, x := range []struct{ l, same, olds, news string }{
		{"3", "3", "3", "3"},
		{"12", "3", "3", "3"},
		{"=a", "=a", "=a", "=a"},
		{"-a", "-a", "=a", ""},
		{"+a", "+a", "", "=a"},
		{"-a+b", "-a+b", "=a", "=b"},
		{"+b-a", "-a+b", "=a", "=b"},
		{"-a+a", "-a+a", "=a", "=a"},
		{"+a+b", "+a+b", "", "=a=b"},
		{"-a-b", "-a-b", "=a=b", ""},
		{"+a-b+c-d", "-b-d+a+c", "=b=d", "=a=c"},
		{"1-a2", "1-a2", "1=a2", "3"},
		{"1+a2", "1+a2", "3", "1=a2"},
		{"1-a2+b3", "1-a2+b3", "1=a5", "3=b3"},
		{"11-a22+b3", "2-a4+b3", "2=a7", "6=b3"},
		{"-a1+a", "-a1+a", "=a1", "1=a"},
		{"-a+x=k-b", "-a+x=k-b", "=a=k=b", "=x=k"},
		{"=k-b1+c=l", "=k-b1+c=l", "=k=b1=l", "=k1=c=l"},
	} {
		l, same := drawn(x.l), drawn(x.same)
		wantSwapped(t, l, nil, drawn(x.olds), same)
		wantSwapped(t, nil, l, same, drawn(x.news))
	}
}

func TestTwo(t *testing.T) {
	for _, x := range []struct{ p, q, first, second string }{
		// Both let all stay
		{"1", "1", "1", "1"},
		{"1", "=a", "=a", "=a"},
		{"=a", "1", "=a", "=a"},
		{"=a", "=a", "=a", "=a"},
		{"=a2", "1=b", "=a=b1", "=a=b1"},
		// One lets be what the other one changes
		{"=a", "-a", "-a", ""},
		{"=a", "-a+b", "-a+b", "=b"},
		{"=a", "+b-a", "-a+b", "=b"},
		{"=a", "+b=a", "+b=a", "=b=a"},
		{"1", "-a", "-a", ""},
		{"1", "-a+b", "-a+b", "=b"},
		{"-a", "1", "=a1", "-a1"},
		{"-a+b", "1", "=a", "-a+b"},
		{"-a+b", "=b", "=a", "-a+b"},
		{"+b-a", "=b", "=a", "-a+b"},
		{"+a", "=a", "", "+a"},
		{"+a", "=a=b", "=b", "+a=b"},
		{"+a+b", "1=b", "", "+a+b"},
		{"-a=k+b", "=k=b", "=a=k", "-a=k+b"},
		// p's changes ahead of q's
		{"+a", "2+b", "1+b", "+a1=b"},
		{"+a", "2-b", "1-b", "+a1"},
		{"-a", "1+b", "=a1+b", "-a1=b"},
		{"-a", "1-b", "=a1-b", "-a1"},
		{"+a", "=a=k+b", "=k+b", "+a=k=b"},
		{"+a", "=a=k-b", "=k-b", "+a=k"},
		{"-a", "=k+b", "=a=k+b", "-a=k=b"},
		{"-a", "=k-b", "=a=k-b", "-a=k"},
		{"-a+x", "2-b+y", "=a1-b+y", "-a+x1=y"},
		{"-a+x", "2+y-b", "=a1-b+y", "-a+x1=y"},
		{"+x-a", "=x1-b+y", "=a1-b+y", "-a+x1=y"},
		{"-a+x", "=x=k-b+y", "=a=k-b+y", "-a+x=k=y"},
		{"-a+x=k", "1=k-b+y", "=a=k-b+y", "-a+x=k=y"},
		{"-a+x=k", "=x1-b+y", "=a=k-b+y", "-a+x=k=y"},
		{"1-a+x2", "3-b+y1", "1=a1-b+y1", "1-a+x1=y1"},
		{"2+a+b+c", "9+x", "6+x", "2+a+b+c4=x"},
		{"2-a-b-c", "5+x", "2=a=b=c3+x", "2-a-b-c3=x"},
		{"-a+x+y=b", "=x=y=b-c", "=a=b-c", "-a+x+y=b"},
		// q's ahead of p's
		{"1+b", "+a", "+a1", "=a1+b"},
		{"1-b", "+a", "+a1=b", "=a1-b"},
		{"2+b", "-a", "-a1", "1+b"},
		{"2-b", "-a", "-a1=b", "1-b"},
		{"=k+b", "+a", "+a=k", "=a=k+b"},
		{"=k-b", "+a", "+a=k=b", "=a=k-b"},
		{"1=k+b", "-a", "-a=k", "=k+b"},
		{"1=k-b", "-a", "-a=k=b", "=k-b"},
		{"2-b+y", "-a+x", "-a+x1=b", "=x1-b+y"},
		{"=a=k-b+y", "-a+x", "-a+x=k=b", "=x=k-b+y"},
		{"1=k-b+y", "-a+x=k=y", "-a+x=k=b", "=x=k-b+y"},
		{"5-a", "2+x+y", "2+x+y3=a", "2=x=y3-a"},
		{"5-a", "1-x-y-z", "1-x-y-z1=a", "2-a"},
		// Each in turn
		{"-a3+b2", "1-c3+d", "=a1-c2+d1", "-a2+b1=d1"},
		{"-a4+b1", "1-c1+d3", "=a1-c1+d2", "-a2=d1+b1"},
		{"+a5+b", "3+c", "2+c3", "+a2=c3+b"},
		{"3-a", "+b5-c", "+b3=a2-c", "=b3-a2"},
		{"-a3-b3-c", "1+x3+y3", "=a1+x2=b1+y2=c1", "-a1=x2-b1=y2-c1"},
		{"2+x3+y3", "-a3-b", "-a2-b4", "1+x2+y3"},
		{"-a+b=k-c+d=l-e+f", "=b=k=d=l=f=m-g+h", "=a=k=c=l=e=m-g+h", "-a+b=k-c+d=l-e+f=m=h"},
		{"2-k3", "-a+b1=c-d+e", "-a+b1=k=c-d+e1", "=b1-k=c=e1"},
	} {
		wantSwapped(t, drawn(x.p), drawn(x.q), drawn(x.first), drawn(x.second))
	}
}

// What hangs together, or goes together never, does so wherever it stands.
func wantErrAnywhere(t *testing.T, want api.Errno, p, q []api.Op) {
	t.Helper()
	wantErr(t, want, p, q)
	far := steps(skip(7))
	wantErr(t, want, slices.Concat(far, p), slices.Concat(far, q))
	// p's row of a change of its own, far enough ahead.
	wantErr(t, want, slices.Concat(steps(ins("p\n")), far, p), slices.Concat(steps(skip(1)), far, q))
	wantErr(t, want, slices.Concat(far, p), slices.Concat(steps(del("q\n")), steps(skip(6)), q))
}

func TestWhatPBringsAndQTakes(t *testing.T) {
	for _, x := range [][2]string{
		{"+a", "-a"},
		{"-b+a", "-a"},
		{"-b+a", "-a+b"},
		{"+a", "-a+b"},
		{"+a", "+b-a"},
		{"+a+b", "-a-b"},
		{"+a+b+c", "-a"},
		{"+a+b+c", "1-b"},
		{"+a+b+c", "2-c"},
		{"+a+b+c", "=a-b=c"},
		{"1+a", "1-a"},
		{"1+a1", "1-a1"},
		{"=k+a", "=k-a"},
		{"=k+a=l", "=k-a=l"},
		{"+a5", "-a5"},
		{"2+a", "2-a5"},
		// Even where nothing else is side by side.
		{"+a3+b", "4-b"},
		{"+a3-c", "-a3"},
		{"-c3+a", "3-a"},
	} {
		wantErrAnywhere(t, api.ErrCommute, drawn(x[0]), drawn(x[1]))
	}
	// One beside the other is not that one.
	wantSwapped(t, drawn("+a=k"), drawn("=a=k-a"), drawn("=k-a"), drawn("+a=k"))
}

func TestChangesSideBySide(t *testing.T) {
	for _, x := range [][2]string{
		// One of each
		{"+a", "+b"},
		{"+a", "1+b"},
		{"+a", "1-b"},
		{"-a", "+b"},
		{"-a", "-b"},
		{"1+a", "-b"},
		{"1-a", "-b"},
		{"1+a", "1+b"},
		{"1+a", "2+b"},
		{"=k+a", "=k+b"},
		{"=k+a", "=k=a+b"},
		{"=k+a", "=k=a-b"},
		{"=k-a", "=k+b"},
		{"=k-a", "=k-b"},
		{"=k+a", "-k"},
		{"=k-a", "-k"},
		{"+a", "=a+b"},
		{"+a", "=a-b"},
		// The same of both
		{"+a", "+a"},
		{"+a", "=a+a"},
		{"-a", "-a"},
		{"-a", "+a"},
		// Amid others
		{"-a+x", "+y"},
		{"-a+x", "1+y"},
		{"-a+x", "=x-y"},
		{"-a-b+x=k", "1+y"},
		{"-a-b+x+y=k", "1+z1"},
		{"-a-b+x+y=k", "2-k"},
		{"1-a-b", "-k+l"},
		{"+a+b", "1+c"},
		// Parted in p or in q, and not in what is told
		{"-a=b+c", "-b"},
		{"+a1+c", "1-b"},
		{"1+b=k", "1=b-k"},
		{"+b", "+a=b=k+c"},
		{"-k=l-m", "-l"},
		// At one place of several
		{"-a4+b", "2+x2+y"},
		{"+a4+b", "+x3+y"},
		{"-a3+b2", "1-c2+d"},
		{"-a3+b2", "1-c1+d3"},
		{"2-a2-b2-c", "1-x3+y"},
		// At the very end, and with lines behind it
		{"3-a", "3+b"},
		{"3-a3", "3+b3"},
		{"3+a", "4+b"},
		{"3+a3", "4+b3"},
		{"3-a", "3-b"},
		{"3-a3", "3-b3"},
		// Of many lines
		{"9+a", "9+b"},
		{"9-a", "9-b"},
		{"99+a", "9333+b"},
		{"99+a", "93331+b"},
	} {
		wantErrAnywhere(t, api.ErrCommute, drawn(x[0]), drawn(x[1]))
	}
}

// A line that stays parts them, whether it is known or not; in each order of a Del or an Ins of each.
func TestOneLineBetween(t *testing.T) {
	for _, between := range steps(skip(1), keep("k\n"), skip(5)) {
		for _, x := range []struct{ ahead, behind string }{{"-a", "-b"}, {"-a", "+b"}, {"+a", "-b"}, {"+a", "+b"}, {"-a+x", "-b+y"}} {
			ahead, behind := drawn(x.ahead), drawn(x.behind)
			stays := func(l []api.Op, kind int) []api.Op {
				var out []api.Op
				for _, o := range l {
					if o.Kind == kind {
						out = append(out, keep(o.Text))
					}
				}
				return out
			}
			// p ahead
			p, q := slices.Concat(ahead, steps(between)), slices.Concat(stays(ahead, api.Ins), steps(between), behind)
			first, second := slices.Concat(stays(ahead, api.Del), steps(between), behind), slices.Concat(ahead, steps(between), stays(behind, api.Ins))
			wantSwapped(t, p, q, first, second)
			wantSwapped(t, ahead, q, first, second)
			// q ahead
			p, q = slices.Concat(stays(ahead, api.Del), steps(between), behind), slices.Concat(ahead, steps(between))
			first, second = slices.Concat(ahead, steps(between), stays(behind, api.Del)), slices.Concat(stays(ahead, api.Ins), steps(between), behind)
			wantSwapped(t, p, q, first, second)
			wantSwapped(t, p, ahead, first, second)
			// With none between
			wantErr(t, api.ErrCommute, ahead, slices.Concat(stays(ahead, api.Ins), behind))
			wantErr(t, api.ErrCommute, slices.Concat(stays(ahead, api.Del), behind), ahead)
		}
	}
}

func TestThatNeverGoTogether(t *testing.T) {
	for _, x := range [][2]string{
		{"=a", "=b"},
		{"=a", "-b"},
		{"+a", "=b"},
		{"+a", "-b"},
		{"-a+b", "=a"},
		{"1=a", "1=b"},
		{"=k+a=l", "=k-b=l"},
		{"=a+x", "-b=x"},
		// Ahead of it, or behind, they hang together, too.
		{"+a+b", "-a-c"},
		{"+a+b", "-b-b"},
		{"+a=b", "-a=c"},
		{"-a=b", "-c"},
		{"-a=b", "+x=c"},
		{"=b+a", "=c+a"},
		{"+x1=b", "+y2-c"},
		{"=b3+x", "-c3-x"},
	} {
		wantErrAnywhere(t, api.ErrConflict, drawn(x[0]), drawn(x[1]))
	}
}

// Behind an open line there is none, and a line is another one, if one is open and one is not.
func TestOpenLines(t *testing.T) {
	a, b, x := "a\n", "b\n", "x\n"
	for _, y := range []struct{ p, q, first, second []api.Op }{
		// One side alone
		{steps(keep("z")), nil, steps(keep("z")), steps(keep("z"))},
		{nil, steps(keep("z")), steps(keep("z")), steps(keep("z"))},
		{steps(del("z")), nil, steps(keep("z")), steps(del("z"))},
		{nil, steps(del("z")), steps(del("z")), nil},
		{steps(ins("z")), nil, nil, steps(ins("z"))},
		{nil, steps(ins("z")), steps(ins("z")), steps(keep("z"))},
		{steps(del("z"), ins("z\n")), nil, steps(keep("z")), steps(del("z"), ins("z\n"))},
		{nil, steps(del("z"), ins("z\n")), steps(del("z"), ins("z\n")), steps(keep("z\n"))},
		{nil, steps(ins("z\n"), del("z")), steps(del("z"), ins("z\n")), steps(keep("z\n"))},
		{steps(del("z\n"), ins("z")), nil, steps(keep("z\n")), steps(del("z\n"), ins("z"))},
		{steps(ins("z"), del(a), del("y")), nil, steps(keep(a), keep("y")), steps(del(a), del("y"), ins("z"))},
		// At the end of p, with q's changes ahead
		{steps(skip(2), ins("z")), steps(del(a)), steps(del(a), skip(1)), steps(skip(1), ins("z"))},
		{steps(skip(2), ins("z")), steps(ins(x)), steps(ins(x), skip(2)), steps(keep(x), skip(2), ins("z"))},
		{steps(skip(2), del("z")), steps(del(a)), steps(del(a), skip(1), keep("z")), steps(skip(1), del("z"))},
		{steps(skip(2), del("z"), ins("y")), steps(ins(a)), steps(ins(a), skip(2), keep("z")), steps(keep(a), skip(2), del("z"), ins("y"))},
		{steps(skip(1), keep("z")), steps(del(a)), steps(del(a), keep("z")), steps(keep("z"))},
		{steps(keep("z")), steps(ins(a)), steps(ins(a), keep("z")), steps(keep(a), keep("z"))},
		// At the end of q, with p's ahead
		{steps(del(a)), steps(skip(1), ins("z")), steps(keep(a), skip(1), ins("z")), steps(del(a), skip(1), keep("z"))},
		{steps(ins(a)), steps(skip(2), ins("z")), steps(skip(1), ins("z")), steps(ins(a), skip(1), keep("z"))},
		{steps(del(a)), steps(skip(1), del("z")), steps(keep(a), skip(1), del("z")), steps(del(a), skip(1))},
		{steps(del(a)), steps(keep(b), del("z"), ins("z\n")), steps(keep(a), keep(b), del("z"), ins("z\n")), steps(del(a), keep(b), keep("z\n"))},
		{steps(skip(1), ins(a)), steps(skip(3), keep("z")), steps(skip(2), keep("z")), steps(skip(1), ins(a), skip(1), keep("z"))},
		{steps(ins(a)), steps(keep(a), keep("z")), steps(keep("z")), steps(ins(a), keep("z"))},
		// At the end of both
		{steps(keep("z")), steps(keep("z")), steps(keep("z")), steps(keep("z"))},
		{steps(keep("z")), steps(del("z")), steps(del("z")), nil},
		{steps(keep("z")), steps(del("z"), ins("y")), steps(del("z"), ins("y")), steps(keep("y"))},
		{steps(skip(1)), steps(del("z"), ins("y")), steps(del("z"), ins("y")), steps(keep("y"))},
		{steps(del("z"), ins("y")), steps(keep("y")), steps(keep("z")), steps(del("z"), ins("y"))},
		{steps(del("z"), ins("y")), steps(skip(1)), steps(keep("z")), steps(del("z"), ins("y"))},
		{steps(ins("z")), steps(keep("z")), nil, steps(ins("z"))},
		{steps(skip(1), ins("z")), steps(skip(1), keep("z")), steps(skip(1)), steps(skip(1), ins("z"))},
		{steps(del(a), keep("z")), steps(keep("z")), steps(keep(a), keep("z")), steps(del(a), keep("z"))},
		{steps(del(a), skip(1), keep("z")), steps(skip(1), del("z")), steps(keep(a), skip(1), del("z")), steps(del(a), skip(1))},
		{steps(del(a), keep(b), keep("z")), steps(keep(b), del("z"), ins("y")), steps(keep(a), keep(b), del("z"), ins("y")), steps(del(a), keep(b), keep("y"))},
		{steps(keep(b), del("z"), ins("y")), steps(ins(a), keep(b), keep("y")), steps(ins(a), keep(b), keep("z")), steps(keep(a), keep(b), del("z"), ins("y"))},
	} {
		wantSwapped(t, y.p, y.q, y.first, y.second)
		far := steps(skip(7))
		wantSwapped(t, slices.Concat(far, y.p), slices.Concat(far, y.q), ops.Norm(slices.Concat(far, y.first)), ops.Norm(slices.Concat(far, y.second)))
	}
	for _, y := range []struct{ p, q []api.Op }{
		{steps(ins("z")), steps(del("z"))},
		{steps(ins("z")), steps(ins(a))},
		{steps(del("z")), steps(ins(a))},
		{steps(del("z")), steps(ins("y"))},
		{steps(skip(1), ins("z")), steps(del(a))},
		{steps(del("z"), ins("z\n")), steps(del("z\n"), ins("y"))},
		{steps(del("z"), ins("z\n")), steps(keep("z\n"), ins("y"))},
		{steps(del("z"), ins("z\n")), steps(skip(1), ins(a))},
		{steps(del(a)), steps(del("z"))},
		{steps(skip(1), del("z")), steps(skip(1), ins("y"))},
	} {
		wantErrAnywhere(t, api.ErrCommute, y.p, y.q)
	}
	for _, y := range []struct{ p, q []api.Op }{
		{steps(keep("z")), steps(keep("z\n"))},
		{steps(keep("z\n")), steps(keep("z"))},
		{steps(ins("z")), steps(keep("z\n"))},
		{steps(ins("z\n")), steps(del("z"))},
		{steps(keep("z")), steps(skip(2))},
		{steps(keep("z")), steps(skip(1), ins(a))},
		{steps(keep("z")), steps(skip(1), keep(a))},
		{steps(ins("z")), steps(skip(2))},
		{steps(skip(2)), steps(keep("z"))},
		{steps(skip(1), ins(a)), steps(keep("z"))},
		{steps(ins(a)), steps(ins("z"))},
		{steps(skip(1)), steps(ins("z"))},
		{steps(del(a), keep(b)), steps(ins("z"))},
		{steps(ins(a)), steps(del("z"))},
	} {
		wantErrAnywhere(t, api.ErrConflict, y.p, y.q)
	}
}

func TestLongSides(t *testing.T) {
	const most = api.MaxNum
	a, b, x, y := "a\n", "b\n", "x\n", "y\n"
	for _, z := range []struct{ p, q, first, second []api.Op }{
		{steps(skip(most)), nil, steps(skip(most)), steps(skip(most))},
		{nil, steps(skip(most)), steps(skip(most)), steps(skip(most))},
		{steps(skip(most)), steps(skip(most)), steps(skip(most)), steps(skip(most))},
		{steps(skip(most)), steps(skip(1)), steps(skip(most)), steps(skip(most))},
		{steps(skip(most)), steps(del(a)), steps(del(a), skip(most-1)), steps(skip(most - 1))},
		{steps(del(a)), steps(skip(most - 1)), steps(keep(a), skip(most-1)), steps(del(a), skip(most-1))},
		{steps(skip(most - 1)), steps(ins(a)), steps(ins(a), skip(most-1)), steps(keep(a), skip(most-1))},
		{steps(ins(a)), steps(skip(most)), steps(skip(most - 1)), steps(ins(a), skip(most-1))},
		{steps(skip(most)), steps(skip(most-1), del("z")), steps(skip(most-1), del("z")), steps(skip(most - 1))},
		{steps(ins(a), skip(most-1)), steps(skip(3), del(b)), steps(skip(2), del(b), skip(most-4)), steps(ins(a), skip(most-2))},
		{steps(ins(a), skip(most-1)), steps(skip(most-1), del(b)), steps(skip(most-2), del(b)), steps(ins(a), skip(most-2))},
		// q's lines have room ahead of p's.
		{steps(del(a), del(b), skip(most-3)), steps(skip(5), ins(x)), steps(keep(a), keep(b), skip(5), ins(x), skip(most-8)), steps(del(a), del(b), skip(5), keep(x), skip(most-8))},
		{steps(del(a)), steps(skip(most-2), ins(x)), steps(keep(a), skip(most-2), ins(x)), steps(del(a), skip(most-2), keep(x))},
		{slices.Repeat(steps(skip(1<<16)), 1<<15), steps(skip(most)), steps(skip(most)), steps(skip(most))},
	} {
		wantSwapped(t, z.p, z.q, z.first, z.second)
	}
	// Without what p takes, they have none: the first is not ops.Right.
	for _, z := range []struct{ p, q []api.Op }{
		{steps(del(a), skip(most-1)), steps(skip(2), ins(b))},
		{steps(del(a)), steps(skip(2), ins(b), skip(most-3))},
		{steps(del(a)), steps(skip(most-1), ins(b))},
		{steps(skip(2), del(a), skip(most-3)), steps(ins(b))},
		{steps(skip(2), del(a)), steps(ins(b), skip(most-1))},
		{steps(del(a), del(b), skip(most-3)), steps(skip(5), ins(x), ins(y))},
		{steps(del(a), del(b), skip(most-2)), steps(skip(5), ins(x))},
		{steps(del(a), ins(b), del(b), skip(most-2)), steps(skip(5), ins(x))},
		{steps(skip(most-1), del(a)), steps(ins(b))},
		{steps(skip(most-1), del("z")), steps(ins(b))},
		{steps(del(a), skip(most-2)), steps(skip(1), ins(x), skip(5), ins(y))},
	} {
		wantErr(t, api.ErrCommute, z.p, z.q)
	}
	// What both make is too long; that changes are side by side is told behind it.
	for _, z := range []struct{ p, q []api.Op }{
		{steps(skip(most)), steps(ins(a))},
		{steps(skip(most)), steps(skip(most-1), ins(a))},
		{steps(del(a)), steps(skip(most))},
		{steps(skip(5), del(a)), steps(skip(most))},
		{steps(del(b), skip(most-1)), steps(ins(a), ins(a))},
		{steps(ins(a), skip(most-2), del(b)), steps(ins(a), ins(a))},
	} {
		wantErr(t, api.ErrConflict, z.p, z.q)
	}
}

// wrong lists steps that can't be, whatever stands beside them.
func wrong() []api.Op {
	out := steps(
		skip(0), skip(-1), skip(api.MaxNum+1), skip(1<<32+1), skip(math.MaxInt), skip(math.MinInt),
		api.Op{Kind: api.Skip, N: 1, Text: "a\n"}, api.Op{Kind: api.Skip, N: 1, Text: "\x00"},
	)
	for _, kind := range []int{api.Keep, api.Del, api.Ins} {
		for _, text := range []string{"", "\n\n", "\na", "a\nb", "a\nb\n", "a\n\n"} {
			out = append(out, api.Op{Kind: kind, Text: text})
		}
		for _, n := range []int{1, -1, api.MaxNum, 1 << 32, math.MaxInt, math.MinInt} {
			out = append(out, api.Op{Kind: kind, N: n, Text: "a\n"})
		}
	}
	for _, kind := range []int{0, -1, 5, -api.Del, -api.Ins, 1<<8 + api.Del, 1<<32 + api.Ins, 1<<32 + api.Skip, math.MaxInt, math.MinInt} {
		out = append(out, api.Op{Kind: kind}, api.Op{Kind: kind, N: 1}, api.Op{Kind: kind, Text: "a\n"})
	}
	return out
}

// wantArg holds that steps that are not ops.Right are told ahead of all else, whichever of the two they are.
func wantArg(t *testing.T, l ...api.Op) {
	t.Helper()
	if ops.Right(l) {
		t.Errorf("%#v is right: no test of what is not", l)
	}
	for _, other := range [][]api.Op{nil, {skip(1)}, {ins("i\n")}, {del("a\n"), ins("b\n")}, {keep("q\n")}, {ins("a\n"), ins("c\n")}, {skip(api.MaxNum)}, {skip(0)}, {del("a")}, l} {
		wantErr(t, api.ErrArg, l, other)
		wantErr(t, api.ErrArg, other, l)
	}
}

// A step that is wrong is found wherever it stands.
func TestStepsThatAreWrongAlone(t *testing.T) {
	all := steps(skip(2), keep("a\n"), del("b\n"), ins("c\n"), skip(1), ins("d\n"), del("e\n"), keep("f\n"))
	for _, w := range wrong() {
		wantArg(t, w)
		for i := 0; i <= len(all); i++ {
			l := slices.Insert(slices.Clone(all), i, w)
			wantArg(t, l...)
			wantErr(t, api.ErrArg, l, all)
			wantErr(t, api.ErrArg, all, l)
		}
	}
	for _, one := range wrong() {
		for _, other := range wrong() {
			wantErr(t, api.ErrArg, steps(one), steps(other))
		}
	}
}

func TestStepsThatAreWrongTogether(t *testing.T) {
	const most = api.MaxNum
	a := "a\n"
	for _, behind := range steps(skip(1), keep(a), keep("z"), del(a), del("z"), ins(a), ins("z")) {
		wantArg(t, keep("z"), behind)
		if behind.Kind != api.Ins {
			wantArg(t, del("z"), behind)
			wantArg(t, del("z"), ins(a), behind)
		}
		if behind.Kind != api.Del {
			wantArg(t, ins("z"), behind)
			wantArg(t, ins("z"), del(a), behind)
		}
	}
	for _, l := range [][]api.Op{
		{skip(most), skip(1)},
		{skip(most), keep(a)},
		{skip(most), del(a)},
		{skip(most), ins(a)},
		{del(a), ins(a), skip(most - 1), del(a)},
		{ins(a), skip(most - 1), ins(a)},
		slices.Repeat(steps(skip(most)), 2),
		slices.Repeat(steps(skip(most)), 1<<10),
	} {
		wantArg(t, l...)
	}
}

// wantDone holds that first q's changes and then p's make of old what p and then q make of it, by way of one.
func wantDone(t *testing.T, p, q []api.Op, old, one, young []string) {
	t.Helper()
	middle, _ := apply.Do(p, old)
	if want, ok := apply.Do(q, middle); !ok || !slices.Equal(want, young) {
		t.Errorf("%#v, then %#v, done to %q: %q, %v; wanted %q", p, q, old, want, ok, young)
	}
	first, second, e := swap.Ops(p, q)
	between, ok := apply.Do(first, old)
	got, is := apply.Do(second, between)
	if e != api.OK || !ok || !is || !slices.Equal(between, one) || !slices.Equal(got, young) {
		t.Errorf("P1502: Ops of %#v and %#v: %#v, %#v, %v; done to %q: %q, %q; wanted %q, %q", p, q, first, second, e, old, between, got, one, young)
	}
}

func TestInTheOtherOrder(t *testing.T) {
	abc, abz := file("a\n", "b\n", "c\n"), file("a\n", "b\n", "z")
	for _, x := range []struct {
		p, q            []api.Op
		old, one, young []string
	}{
		{nil, nil, nil, nil, nil},
		{nil, nil, abz, abz, abz},
		{steps(skip(2)), steps(skip(3)), abz, abz, abz},
		{drawn("1-b"), nil, abc, abc, file("a\n", "c\n")},
		{nil, drawn("1-b"), abc, file("a\n", "c\n"), file("a\n", "c\n")},
		{drawn("-a"), drawn("1-c"), abc, file("a\n", "b\n"), file("b\n")},
		{drawn("-a+x"), drawn("2-c+y"), abc, file("a\n", "b\n", "y\n"), file("x\n", "b\n", "y\n")},
		{drawn("2-c+y"), drawn("-a+x"), abc, file("x\n", "b\n", "c\n"), file("x\n", "b\n", "y\n")},
		{drawn("+x+y"), drawn("5+w"), abc, file("a\n", "b\n", "c\n", "w\n"), file("x\n", "y\n", "a\n", "b\n", "c\n", "w\n")},
		{drawn("+x+y"), drawn("4-c"), abc, file("a\n", "b\n"), file("x\n", "y\n", "a\n", "b\n")},
		{drawn("1+x"), drawn("3+y=c"), abc, file("a\n", "b\n", "y\n", "c\n"), file("a\n", "x\n", "b\n", "y\n", "c\n")},
		{steps(skip(2), del("z")), drawn("-a"), abz, file("b\n", "z"), file("b\n")},
		{steps(skip(2), del("z"), ins("y")), drawn("+x"), abz, file("x\n", "a\n", "b\n", "z"), file("x\n", "a\n", "b\n", "y")},
		{drawn("+x"), steps(skip(3), del("z"), ins("z\n")), abz, file("a\n", "b\n", "z\n"), file("x\n", "a\n", "b\n", "z\n")},
		{drawn("-a"), steps(skip(2), ins("z")), abc, file("a\n", "b\n", "c\n", "z"), file("b\n", "c\n", "z")},
		{steps(ins("x")), nil, nil, nil, file("x")},
		{nil, steps(ins("x")), nil, file("x"), file("x")},
	} {
		wantDone(t, x.p, x.q, x.old, x.one, x.young)
	}
}

func TestAnyBytes(t *testing.T) {
	var p, q, first, second []api.Op
	for b := range 256 {
		if b == '\n' {
			continue
		}
		line, other := string([]byte{byte(b), 0xff, 0, '\n'}), string([]byte{0xfe, byte(b), '\n'})
		p = append(p, skip(b+1), del(line), ins(other), keep(line))
		q = append(q, skip(b+2), keep(line), del(other), ins(line), ins(other), keep(other))
		first = append(first, skip(b+1), keep(line), keep(line), del(other), ins(line), ins(other), keep(other))
		second = append(second, skip(b+1), del(line), ins(other), keep(line), keep(line), keep(other), keep(other))
		p = append(p, keep(other), keep(other))
	}
	wantSwapped(t, p, q, first, second)
	for b := range 256 {
		for other := range 256 {
			if b == '\n' || other == '\n' {
				continue // no line has it amid its bytes
			}
			one, two := "x"+string([]byte{byte(b)})+"y\n", "x"+string([]byte{byte(other)})+"y\n"
			if b == other {
				wantErr(t, api.ErrCommute, steps(ins(one)), steps(del(two)))
				wantSwapped(t, steps(ins(one)), steps(keep(two)), nil, steps(ins(one)))
			} else {
				wantErr(t, api.ErrConflict, steps(ins(one)), steps(del(two)))
				wantErr(t, api.ErrConflict, steps(ins(one)), steps(keep(two)))
			}
		}
	}
	long := strings.Repeat("x", 1<<22)
	wantSwapped(t, steps(ins(long)), steps(keep(long)), nil, steps(ins(long)))
	wantErr(t, api.ErrCommute, steps(ins(long)), steps(del(long)))
	wantErr(t, api.ErrConflict, steps(ins(long)), steps(keep(long+"y")))
}

// Many steps take no more than their number: each is looked at a few times.
func TestManySteps(t *testing.T) {
	const n = 100000
	many := func(s string) []api.Op { return slices.Repeat(drawn(s), n) }
	for i, x := range []struct {
		p, q, first, second []api.Op
		e                   api.Errno
	}{
		{many("1"), nil, steps(skip(n)), steps(skip(n)), api.OK},
		{steps(skip(n)), many("1"), steps(skip(n)), steps(skip(n)), api.OK},
		{many("1"), many("-a"), many("-a"), nil, api.OK},
		{many("-a"), many("1"), append(many("=a"), skip(n)), append(many("-a"), skip(n)), api.OK},
		{many("+a"), many("1"), nil, many("+a"), api.OK},
		{many("-a1"), many("1"), many("=a1"), many("-a1"), api.OK},
		{many("-a+b2"), many("11-c+d"), nil, nil, api.ErrCommute},
		{many("-a+b3"), many("2-c+d1"), many("=a1-c+d1"), many("-a+b1=d1"), api.OK},
		{many("+a=b"), many("=a=b"), many("=b"), many("+a=b"), api.OK},
		{many("+a"), many("-a"), nil, nil, api.ErrCommute},
		{many("1"), append(many("1"), del("a\n")), append(steps(skip(n)), del("a\n")), steps(skip(n)), api.OK},
	} {
		first, second, e := swap.Ops(x.p, x.q)
		if e != x.e || !slices.Equal(first, x.first) || !slices.Equal(second, x.second) {
			t.Errorf("P1501: Ops %d of %d steps and %d: %d, %d, %v", i, len(x.p), len(x.q), len(first), len(second), e)
		}
	}
}

// What both together do is the same in either order, to the step.
func TestThenOfBoth(t *testing.T) {
	for _, x := range [][2]string{{"-a", "1-b"}, {"2-b+y", "-a+x"}, {"-a3-b3-c", "1+x3+y3"}, {"+a=k", "=a=k-a"}, {"2-k3", "-a+b1=c-d+e"}} {
		p, q := drawn(x[0]), drawn(x[1])
		want, _ := compose.Then(p, q)
		first, second, _ := swap.Ops(p, q)
		if got, ok := compose.Then(first, second); !ok || !slices.Equal(got, want) {
			t.Errorf("P1502: %#v, then %#v: %#v, %v; wanted %#v", first, second, got, ok, want)
		}
	}
}

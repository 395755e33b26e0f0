package inter_test

import (
	"math"
	"slices"
	"strconv"
	"strings"
	"testing"

	"patchwork/api"
	"patchwork/apply"
	"patchwork/inter"
	"patchwork/ops"
	"patchwork/tidy"
)

// skip, keep, del, ins make steps, steps and file list them and lines.
func skip(n int) api.Op          { return api.Op{Kind: api.Skip, N: n} }
func keep(s string) api.Op       { return api.Op{Kind: api.Keep, Text: s} }
func del(s string) api.Op        { return api.Op{Kind: api.Del, Text: s} }
func ins(s string) api.Op        { return api.Op{Kind: api.Ins, Text: s} }
func steps(l ...api.Op) []api.Op { return l }
func file(l ...string) []string  { return l }

// drawn makes steps of pairs such as =a, -b and +c, and of digits, each so many lines that are not known.
func drawn(s string) []api.Op {
	var out []api.Op
	for s != "" {
		if n, err := strconv.Atoi(s[:1]); err == nil {
			out, s = append(out, skip(n)), s[1:]
			continue
		}
		kind := map[byte]int{'=': api.Keep, '-': api.Del, '+': api.Ins}[s[0]]
		out, s = append(out, api.Op{Kind: kind, Text: s[1:2] + "\n"}), s[2:]
	}
	return out
}

// wantBoth holds Ops against what must come.
func wantBoth(t *testing.T, p, q, want []api.Op) {
	t.Helper()
	if got, ok := inter.Ops(p, q); !ok || !slices.Equal(got, want) {
		t.Errorf("P1401: Ops of %#v and %#v: %#v, %v; wanted %#v", p, q, got, ok, want)
	}
}

// wantNever holds that there is nothing between two, in either order.
func wantNever(t *testing.T, p, q []api.Op) {
	t.Helper()
	for _, x := range [][2][]api.Op{{p, q}, {q, p}} {
		if got, ok := inter.Ops(x[0], x[1]); ok || len(got) != 0 {
			t.Errorf("P1401: Ops of %#v and %#v, which never go together: %#v, %v", x[0], x[1], got, ok)
		}
	}
}

func TestNoneAndNone(t *testing.T) {
	nones := [][]api.Op{nil, {}, make([]api.Op, 0, 3), steps(del("a\n"), ins("b\n"))[:0]}
	for _, p := range nones {
		for _, q := range nones {
			wantBoth(t, p, q, nil)
		}
	}
}

// To what nothing makes it is back, from there it is what the steps do.
func TestOneSideAlone(t *testing.T) {
	for _, x := range []struct{ l, to, back string }{
		{"3", "3", "3"},
		{"12", "3", "3"},
		{"=a", "=a", "=a"},
		{"-a", "-a", "+a"},
		{"+a", "+a", "-a"},
		{"-a+b", "-a+b", "-b+a"},
		{"+b-a", "-a+b", "-b+a"},
		{"+a+b", "+a+b", "-a-b"},
		{"-a-b", "-a-b", "+a+b"},
		{"1-a2+b3", "1-a2+b3", "1+a2-b3"},
		{"11-a22+b33", "2-a4+b6", "2+a4-b6"},
		{"-a+x=k-b", "-a+x=k-b", "-x+a=k+b"},
		// What goes and comes again is left out.
		{"-a+a", "=a", "=a"},
		{"+a-a", "=a", "=a"},
		{"1-a+a2", "1=a2", "1=a2"},
		{"-a1+a", "-a1+a", "+a1-a"},
		{"-a-b+b+c", "-a=b+c", "+a=b-c"},
		{"-a=b+a", "-a=b+a", "-b=a+b"},
	} {
		wantBoth(t, nil, drawn(x.l), drawn(x.to))
		wantBoth(t, drawn(x.l), nil, drawn(x.back))
	}
}

func TestTwo(t *testing.T) {
	for _, x := range []struct{ p, q, want string }{
		// One line, to which each does something, or lets it be
		{"1", "1", "1"},
		{"1", "=a", "=a"},
		{"1", "-a", "-a"},
		{"1", "-a+b", "-a+b"},
		{"=a", "1", "=a"},
		{"=a", "=a", "=a"},
		{"=a", "-a", "-a"},
		{"=a", "-a+b", "-a+b"},
		{"-a", "1", "+a"},
		{"-a", "=a", "+a"},
		{"-a", "-a", ""},
		{"-a", "-a+b", "+b"},
		{"-a+b", "1", "-b+a"},
		{"-a+b", "=a", "-b+a"},
		{"-a+b", "-a", "-b"},
		{"-a+b", "-a+x", "-b+x"},
		{"-a+b", "-a+b", "=b"},
		{"-a+b", "+b-a", "=b"},
		{"+b-a", "-a+b", "=b"},
		{"-a+b", "+x-a", "-b+x"},
		{"-a+b", "-a+a", "-b+a"},
		{"-a+a", "-a+b", "-a+b"},
		{"-a+a", "1", "=a"},
		{"1", "+a-a", "=a"},
		// Lines that come
		{"+a", "+a", "=a"},
		{"+a", "+b", "-a+b"},
		{"2+a", "2+b", "2-a+b"},
		{"+a+b", "+b+c", "-a=b+c"},
		{"+b+c", "+a+b", "+a=b-c"},
		{"+a+b", "+b+a", "-a=b+a"},
		{"+a+b", "+a", "=a-b"},
		{"+b", "+a+b", "+a=b"},
		{"=k+a", "=k+b", "=k-a+b"},
		{"=a+b=c", "=a+c=c", "=a-b=c+c"},
		// Lines of which one knows more than the other
		{"=a=b=c", "3", "=a=b=c"},
		{"=a2", "2=c", "=a1=c"},
		{"1-b1", "=a1=c", "=a+b=c"},
		{"=a1=c", "1-b1", "=a-b=c"},
		{"=a-b+x=c", "1-b+y1", "=a-x+y=c"},
		{"1-b+x1", "=a-b+y=c", "=a-x+y=c"},
		// At places of their own
		{"1-b2", "2-c", "1-c+b1"},
		{"1-b3", "3-d", "1+b1-d1"},
		{"3-d", "1-b3", "1-b1+d1"},
		{"1-b+x3", "3-d+y", "1-x+b1-d+y1"},
		{"1+x", "3+y", "1-x2+y"},
		{"3+y", "1+x", "1+x2-y"},
		{"+x", "1+x", "-x1+x"},
		{"-a1", "1-a", "=a"},
		// A line goes at one place, and the same comes at another.
		{"-a=b", "-a=b+a", "=b+a"},
		{"-a=b+a", "=a=b", "-b=a+b"},
		{"=a=b", "-a=b+a", "-a=b+a"},
		{"-a2+a", "3", "+a2-a"},
		// What one takes beside what the other one brings
		{"-a", "+b1", "+b+a"},
		{"-a", "+a", "+a+a"},
		{"+a", "-a", "-a-a"},
		{"-a", "1+a", "+a+a"},
		{"-a", "1+b", "+a+b"},
		{"+b1", "-a", "-b-a"},
		{"1+b", "-a", "-a-b"},
		{"1+x", "-a+b", "-a-x+b"},
		{"-a+b", "1+x", "-b+a+x"},
		{"-a+b", "+x1", "-b+x+a"},
		// What both took stays away, and what both brought stays.
		{"-a-b+x+y", "-a-b+x+z", "=x-y+z"},
		{"-a-b-c", "-a1-c", "+b"},
		{"1-b+x+y+z1", "1-b+x+z1", "1=x-y=z1"},
	} {
		wantBoth(t, drawn(x.p), drawn(x.q), drawn(x.want))
	}
}

// Where p and q are the same, all that p makes stays.
func TestOneAndItself(t *testing.T) {
	for _, x := range []struct{ l, want string }{
		{"", ""},
		{"3", "3"},
		{"12", "3"},
		{"=a", "=a"},
		{"-a", ""},
		{"+a", "=a"},
		{"-a+b", "=b"},
		{"+b-a", "=b"},
		{"+a+b+a", "=a=b=a"},
		{"1-a2+b3", "3=b3"},
		{"1-a2", "3"},
		{"=a-b+c=d", "=a=c=d"},
		{"-a+a", "=a"},
		{"+a-a-b+b", "=a=b"},
		{"+x-a+y-b=k-c+z4", "=x=y=k=z4"},
		{"-a=b+a", "=b=a"},
	} {
		l, want := drawn(x.l), drawn(x.want)
		wantBoth(t, l, l, want)
		wantBoth(t, l, slices.Clone(l), want)
		wantBoth(t, l, ops.Norm(l), want)
		if got, ok := inter.Ops(l, l); !ok || !tidy.Idle(got) || ops.Changes(got) != 0 {
			t.Errorf("P1402: Ops of %#v and itself: %#v, %v", l, got, ok)
		}
	}
}

// A line of the old side can't be two.
func TestOtherLines(t *testing.T) {
	for _, x := range [][2]string{
		{"-a", "-b"},
		{"-a", "=b"},
		{"=a", "=b"},
		{"-a+b", "=b"},
		{"-a+b", "-b"},
		{"-a+x", "-b+x"},
		{"-a+a", "-b+b"},
		{"1=a", "1=b"},
		{"1-a2", "1-b2"},
		{"2-a", "1=k=b"},
		{"-a-b", "-a-c"},
		{"-a-b", "-b"},
		{"+x=a", "=x"},
		{"=a+x=b", "=a=x"},
		{"=a+x=b", "1-x2"},
		{"-x=b", "1=a"},
		{"=a=b=c=d", "3-e"},
		{"9-a", "9-b"},
	} {
		p, q := drawn(x[0]), drawn(x[1])
		for _, beside := range [][2]string{{"", ""}, {"1", "3"}, {"=k-l+m", "5=n"}} {
			ahead, behind := drawn(beside[0]), drawn(beside[1])
			// With more behind one of the two there are other lines beside those that can't be two.
			wantNever(t, slices.Concat(ahead, p), slices.Concat(ahead, q))
			wantNever(t, slices.Concat(ahead, p, behind), slices.Concat(ahead, q))
			wantNever(t, slices.Concat(ahead, p), slices.Concat(ahead, q, behind))
		}
	}
	// One that comes is none of the old side.
	wantBoth(t, drawn("+a"), drawn("=b"), drawn("-a=b"))
	wantBoth(t, drawn("=b"), drawn("+a"), drawn("+a=b"))
	wantBoth(t, drawn("=b+a=c"), drawn("1-c"), drawn("=b-a-c"))
}

func TestSkipsOfSeveralLines(t *testing.T) {
	for _, x := range []struct{ p, q, want string }{
		{"3", "5", "5"},
		{"5", "3", "5"},
		{"23", "44", "8"},
		{"", "5", "5"},
		{"5", "", "5"},
		{"5", "-a", "-a4"},
		{"-a", "5", "+a4"},
		{"-a+b", "5", "-b+a4"},
		{"=a", "5", "=a4"},
		{"=a", "=a=b=c", "=a=b=c"},
		{"=a=b=c", "=a", "=a=b=c"},
		{"-a-b-c", "-a", "+b+c"},
		{"-a", "-a-b-c", "-b-c"},
		{"+x", "5", "-x5"},
		{"5", "+x", "+x5"},
		{"5", "2-x4", "2-x4"},
		{"7", "2-x1", "2-x4"},
		{"2-x4", "5", "2+x4"},
		{"5", "2+x", "2+x3"},
		{"2+x", "5", "2-x3"},
		{"5", "5+x", "5+x"},
		{"5+x", "5", "5-x"},
		{"5", "6+x", "6+x"},
		{"6+x", "5", "6-x"},
		{"=a3=b", "1=x1=y=b=c", "=a=x1=y=b=c"},
		{"1-b1-d", "9+x", "1+b1+d5+x"},
		{"9+x", "1-b1-d", "1-b1-d5-x"},
		{"9+x", "1=b7-y", "1=b7-x-y"},
		// A Skip parts what goes from what comes, but not where the lines are known on one side.
		{"+a1", "1+a", "-a1+a"},
		{"+a=b", "1+a", "-a=b+a"},
		{"-a1", "1-a+a", "=a+a"},
		{"-a1+a", "2", "+a1-a"},
		{"-a1+a", "1=b", "-b=a+b"},
	} {
		wantBoth(t, drawn(x.p), drawn(x.q), drawn(x.want))
	}
}

// A line is another one, if one is open and one is not; behind an open one there is none.
func TestOpenLines(t *testing.T) {
	a, b := "a\n", "b\n"
	for _, x := range []struct{ p, q, want []api.Op }{
		// At the end of one side
		{steps(ins("z")), nil, steps(del("z"))},
		{nil, steps(ins("z")), steps(ins("z"))},
		{steps(ins("z")), steps(ins(a)), steps(del("z"), ins(a))},
		{steps(ins(a)), steps(ins("z")), steps(del(a), ins("z"))},
		{steps(skip(1), ins("z")), steps(skip(1)), steps(skip(1), del("z"))},
		{steps(skip(1)), steps(skip(1), ins("z")), steps(skip(1), ins("z"))},
		{steps(skip(1), ins("z")), steps(del(a)), steps(del(a), del("z"))},
		{steps(del(a)), steps(keep(a), ins("z")), steps(ins(a), ins("z"))},
		{steps(del("z"), ins("z\n")), steps(skip(1)), steps(del("z\n"), ins("z"))},
		{steps(skip(1)), steps(del("z"), ins("z\n")), steps(del("z"), ins("z\n"))},
		{steps(del("z\n"), ins("z")), steps(skip(1)), steps(del("z"), ins("z\n"))},
		{steps(del("z"), ins("z\n")), steps(del("z"), ins("y")), steps(del("z\n"), ins("y"))},
		{steps(del("z"), ins("z\n")), steps(del("z")), steps(del("z\n"))},
		{steps(del(a), ins("z")), steps(del(a), ins(b)), steps(del("z"), ins(b))},
		// At the end of both
		{steps(keep("z")), steps(keep("z")), steps(keep("z"))},
		{steps(keep("z")), steps(skip(1)), steps(keep("z"))},
		{steps(skip(1)), steps(keep("z")), steps(keep("z"))},
		{steps(keep("z")), steps(del("z")), steps(del("z"))},
		{steps(del("z")), steps(keep("z")), steps(ins("z"))},
		{steps(del("z")), steps(skip(1)), steps(ins("z"))},
		{steps(skip(1)), steps(del("z")), steps(del("z"))},
		{steps(del("z")), steps(del("z")), nil},
		{steps(ins("z")), steps(ins("z")), steps(keep("z"))},
		{steps(ins("z")), steps(ins("y")), steps(del("z"), ins("y"))},
		{steps(keep("z")), steps(del("z"), ins("y")), steps(del("z"), ins("y"))},
		{steps(del("z"), ins("y")), steps(keep("z")), steps(del("y"), ins("z"))},
		{steps(del("z"), ins("y")), steps(ins("y"), del("z")), steps(keep("y"))},
		{steps(del("z"), ins("z\n")), steps(del("z"), ins("z\n")), steps(keep("z\n"))},
		{steps(del("z"), ins(a), ins("z")), steps(keep("z")), steps(del(a), keep("z"))},
		{steps(keep("z")), steps(ins(a), keep("z")), steps(ins(a), keep("z"))},
		{steps(del("z"), ins("z")), steps(skip(1)), steps(keep("z"))},
		{steps(skip(1), del("z")), steps(skip(2)), steps(skip(1), ins("z"))},
		{steps(skip(1), del("z")), steps(del(a)), steps(del(a), ins("z"))},
		{steps(skip(2)), steps(skip(1), del("z"), ins(b)), steps(skip(1), del("z"), ins(b))},
		{steps(del(a)), steps(skip(1), del("z"), ins("y")), steps(del("z"), ins(a), ins("y"))},
		{steps(keep(a), keep("z")), steps(del(a), skip(1)), steps(del(a), keep("z"))},
		// What the other one brings stands ahead of it.
		{steps(keep("z")), steps(ins(a)), steps(ins(a), keep("z"))},
		{steps(ins(a)), steps(keep("z")), steps(del(a), keep("z"))},
		{steps(del("z")), steps(ins(a)), steps(ins(a), ins("z"))},
		{steps(ins(a)), steps(del("z")), steps(del(a), del("z"))},
		{steps(del("z"), ins("y")), steps(ins(a)), steps(del("y"), ins(a), ins("z"))},
		{steps(ins(a)), steps(del("z"), ins("y")), steps(del(a), del("z"), ins("y"))},
		// Or behind it, where it has a line of its own.
		{steps(del("z"), ins(a)), steps(del("z"), ins(b), ins("y")), steps(del(a), ins(b), ins("y"))},
	} {
		wantBoth(t, x.p, x.q, x.want)
		far := steps(skip(7))
		wantBoth(t, slices.Concat(far, x.p), slices.Concat(far, x.q), ops.Norm(slices.Concat(far, x.want)))
	}
	for _, x := range []struct{ p, q []api.Op }{
		// The line is open for one, and not for the other.
		{steps(keep("z")), steps(keep("z\n"))},
		{steps(keep("z")), steps(del("z\n"))},
		{steps(del("z")), steps(keep("z\n"))},
		{steps(del("z")), steps(del("z\n"))},
		{steps(del("z"), ins("z\n")), steps(keep("z\n"))},
		{steps(keep("z")), steps(keep("y"))},
		{steps(del("z"), ins("x")), steps(del("y"), ins("x"))},
		// It is the last for one, and not for the other.
		{steps(keep("z")), steps(skip(2))},
		{steps(keep("z")), steps(skip(1), keep(a))},
		{steps(keep("z")), steps(skip(1), del("z"))},
		{steps(del("z")), steps(skip(2))},
		{steps(del("z")), steps(skip(1), del(a))},
		{steps(del("z")), steps(skip(1), keep("z"))},
		{steps(del("z"), ins(a)), steps(skip(2))},
		{steps(del("z"), ins(a)), steps(keep(a), keep(b))},
		{steps(skip(1), del("z")), steps(skip(1), skip(1), skip(1))},
		// One brings an open line ahead of what the other one has.
		{steps(ins("z")), steps(skip(1))},
		{steps(ins("z")), steps(keep(a))},
		{steps(ins("z")), steps(del(a))},
		{steps(ins("z")), steps(del("z"))},
		{steps(ins("z")), steps(del("z"), ins("z"))},
		{steps(skip(1), ins("z")), steps(skip(2))},
		{steps(skip(1), ins("z")), steps(skip(1), del("y"))},
		{steps(del(a), ins("z")), steps(keep(a), keep(b))},
		{steps(del(a), ins("z")), steps(del(a), del(b), ins("z"))},
		// Or behind an open line.
		{steps(keep("z")), steps(skip(1), ins(a))},
		{steps(keep("z")), steps(skip(1), ins("y"))},
	} {
		wantNever(t, x.p, x.q)
		far := steps(skip(7))
		wantNever(t, slices.Concat(far, x.p), slices.Concat(far, x.q))
	}
	// Behind an open line that goes, another one comes.
	wantBoth(t, steps(del("z")), steps(skip(1)), steps(ins("z")))
}

func TestLongSides(t *testing.T) {
	const most = api.MaxNum
	a, b := "a\n", "b\n"
	for _, x := range []struct{ p, q, want []api.Op }{
		{steps(skip(most)), nil, steps(skip(most))},
		{nil, steps(skip(most)), steps(skip(most))},
		{steps(skip(most)), steps(skip(most)), steps(skip(most))},
		{steps(skip(most)), steps(skip(1)), steps(skip(most))},
		{steps(skip(most)), steps(del(a)), steps(del(a), skip(most-1))},
		{steps(del(a)), steps(skip(most)), steps(ins(a), skip(most-1))},
		{steps(skip(most)), steps(skip(most-1), keep("z")), steps(skip(most-1), keep("z"))},
		{steps(skip(most-1), del("z")), steps(skip(most)), steps(skip(most-1), ins("z"))},
		{steps(ins(a), skip(most-1)), steps(ins(b), skip(most-1)), steps(del(a), ins(b), skip(most-1))},
		{steps(ins(a), skip(most-1)), steps(ins(a), skip(most-1)), steps(keep(a), skip(most-1))},
		{steps(del(a), skip(most-1)), steps(del(a), ins(b), skip(most-1)), steps(ins(b), skip(most-1))},
		{steps(del(a), skip(most-2), ins(b)), steps(del(a), ins(b), skip(most-2)), steps(ins(b), skip(most-2), del(b))},
		{steps(ins(a)), steps(skip(most - 1)), steps(del(a), skip(most-1))},
		{slices.Repeat(steps(skip(1<<16)), 1<<15), steps(skip(most)), steps(skip(most))},
	} {
		wantBoth(t, x.p, x.q, x.want)
	}
	// What one of the two makes would be too long.
	for _, x := range []struct{ p, q []api.Op }{
		{steps(skip(most)), steps(ins(a))},
		{steps(skip(most)), steps(skip(most-1), ins(a))},
		{steps(ins(a), skip(most-1)), steps(skip(most))},
		{steps(del(a), ins(a), ins(b)), steps(skip(most))},
	} {
		wantNever(t, x.p, x.q)
	}
}

// wrong lists steps that can't be, whatever stands beside them.
func wrong() []api.Op {
	out := steps(
		skip(0), skip(-1), skip(api.MaxNum+1), skip(1<<32+1), skip(math.MaxInt), skip(math.MinInt),
		api.Op{Kind: api.Skip, N: 1, Text: "a\n"}, api.Op{Kind: api.Skip, N: 1, Text: "\x00"},
	)
	for _, kind := range []int{api.Keep, api.Del, api.Ins} {
		for _, text := range []string{"", "\n\n", "\na", "a\nb", "a\nb\n", "a\n\n"} {
			out = append(out, api.Op{Kind: kind, Text: text})
		}
		for _, n := range []int{1, -1, api.MaxNum, 1 << 32, math.MaxInt, math.MinInt} {
			out = append(out, api.Op{Kind: kind, N: n, Text: "a\n"})
		}
	}
	for _, kind := range []int{0, -1, 5, -api.Del, -api.Ins, 1<<8 + api.Del, 1<<32 + api.Ins, 1<<32 + api.Skip, math.MaxInt, math.MinInt} {
		out = append(out, api.Op{Kind: kind}, api.Op{Kind: kind, N: 1}, api.Op{Kind: kind, Text: "a\n"})
	}
	return out
}

// wantWrong holds that between steps that are not ops.Right and others there is nothing, whichever of the two they are.
func wantWrong(t *testing.T, l ...api.Op) {
	t.Helper()
	if ops.Right(l) {
		t.Errorf("%#v is right: no test of what is not", l)
	}
	for _, other := range [][]api.Op{nil, {skip(1)}, {ins("i\n")}, {del("a\n"), ins("b\n")}, {skip(api.MaxNum)}, {skip(0)}, {del("a")}, l} {
		wantNever(t, l, other)
	}
}

// A step that is wrong is found wherever it stands.
func TestStepsThatAreWrongAlone(t *testing.T) {
	all := steps(skip(2), keep("a\n"), del("b\n"), ins("c\n"), skip(1), ins("d\n"), del("e\n"), keep("f\n"))
	for _, w := range wrong() {
		wantWrong(t, w)
		for i := 0; i <= len(all); i++ {
			l := slices.Insert(slices.Clone(all), i, w)
			wantWrong(t, l...)
			wantNever(t, l, all)
		}
	}
	for _, one := range wrong() {
		for _, other := range wrong() {
			wantNever(t, steps(one), steps(other))
		}
	}
}

func TestStepsThatAreWrongTogether(t *testing.T) {
	const most = api.MaxNum
	a := "a\n"
	for _, behind := range steps(skip(1), keep(a), keep("z"), del(a), del("z"), ins(a), ins("z")) {
		wantWrong(t, keep("z"), behind)
		if behind.Kind != api.Ins {
			wantWrong(t, del("z"), behind)
			wantWrong(t, del("z"), ins(a), behind)
		}
		if behind.Kind != api.Del {
			wantWrong(t, ins("z"), behind)
			wantWrong(t, ins("z"), del(a), behind)
		}
	}
	for _, l := range [][]api.Op{
		{skip(most), skip(1)},
		{skip(most), keep(a)},
		{skip(most), del(a)},
		{skip(most), ins(a)},
		{del(a), ins(a), skip(most - 1), del(a)},
		{ins(a), skip(most - 1), ins(a)},
		slices.Repeat(steps(skip(most)), 2),
		slices.Repeat(steps(skip(most)), 1<<10),
	} {
		wantWrong(t, l...)
	}
}

// wantLeads holds that Ops leads from what p makes of some lines to what q makes of them, and the other way round back.
func wantLeads(t *testing.T, p, q []api.Op, old, one, two []string) {
	t.Helper()
	first, _ := apply.Do(p, old)
	second, _ := apply.Do(q, old)
	if !slices.Equal(first, one) || !slices.Equal(second, two) {
		t.Errorf("%#v and %#v done to %q: %q, %q; wanted %q, %q", p, q, old, first, second, one, two)
	}
	to, ok := inter.Ops(p, q)
	if got, is := apply.Do(to, one); !ok || !is || !slices.Equal(got, two) {
		t.Errorf("P1402: Ops of %#v and %#v: %#v, %v; done to %q: %q, %v; wanted %q", p, q, to, ok, one, got, is, two)
	}
	back, ok := inter.Ops(q, p)
	if got, is := apply.Do(back, two); !ok || !is || !slices.Equal(got, one) {
		t.Errorf("P1402: Ops of %#v and %#v: %#v, %v; done to %q: %q, %v; wanted %q", q, p, back, ok, two, got, is, one)
	}
}

func TestFromOneToTheOther(t *testing.T) {
	abc, abz := file("a\n", "b\n", "c\n"), file("a\n", "b\n", "z")
	for _, x := range []struct {
		p, q          []api.Op
		old, one, two []string
	}{
		{nil, nil, nil, nil, nil},
		{nil, nil, abz, abz, abz},
		{steps(skip(2)), steps(skip(3)), abz, abz, abz},
		{drawn("1-b"), nil, abc, file("a\n", "c\n"), abc},
		{drawn("1-b"), drawn("-a"), abc, file("a\n", "c\n"), file("b\n", "c\n")},
		{drawn("1-b"), drawn("1-b-c"), abc, file("a\n", "c\n"), file("a\n")},
		{drawn("1-b+x"), drawn("1-b+y"), abc, file("a\n", "x\n", "c\n"), file("a\n", "y\n", "c\n")},
		{drawn("1-b+x"), drawn("1-b+y"), abz, file("a\n", "x\n", "z"), file("a\n", "y\n", "z")},
		{drawn("+x3+y"), drawn("=a+w"), abc, file("x\n", "a\n", "b\n", "c\n", "y\n"), file("a\n", "w\n", "b\n", "c\n")},
		{drawn("-a=b-c+c+a"), drawn("-a-b-c"), abc, file("b\n", "c\n", "a\n"), nil},
		{steps(skip(2), del("z")), steps(skip(2), del("z"), ins("z\n")), abz, file("a\n", "b\n"), file("a\n", "b\n", "z\n")},
		{steps(skip(2), del("z"), ins("y")), drawn("+x"), abz, file("a\n", "b\n", "y"), file("x\n", "a\n", "b\n", "z")},
		{steps(skip(3), ins("z")), steps(skip(2), del("c\n"), ins("c")), abc, file("a\n", "b\n", "c\n", "z"), file("a\n", "b\n", "c")},
		{steps(ins("x")), steps(ins("w\n")), nil, file("x"), file("w\n")},
		{steps(ins("x")), nil, nil, file("x"), nil},
	} {
		wantLeads(t, x.p, x.q, x.old, x.one, x.two)
	}
}

func TestAnyBytes(t *testing.T) {
	var p, q, want []api.Op
	for b := range 256 {
		if b == '\n' {
			continue
		}
		line, other := string([]byte{byte(b), 0xff, 0, '\n'}), string([]byte{0xfe, byte(b), '\n'})
		p = append(p, skip(b+1), del(line), ins(other), keep(line))
		q = append(q, skip(b+1), del(line), del(line), ins(other), ins(other))
		want = append(want, skip(b+1), keep(other), del(line), ins(other))
	}
	wantBoth(t, p, q, want)
	for b := range 256 {
		for other := range 256 {
			if b == '\n' || other == '\n' {
				continue // no line has it amid its bytes
			}
			one, two := "x"+string([]byte{byte(b)})+"y\n", "x"+string([]byte{byte(other)})+"y\n"
			if b == other {
				wantBoth(t, steps(del(one)), steps(keep(two)), steps(ins(one)))
				wantBoth(t, steps(ins(one)), steps(ins(two)), steps(keep(one)))
			} else {
				wantNever(t, steps(del(one)), steps(keep(two)))
				wantBoth(t, steps(ins(one)), steps(ins(two)), steps(del(one), ins(two)))
			}
		}
	}
	long := strings.Repeat("x", 1<<22)
	wantBoth(t, steps(ins(long)), steps(ins(long)), steps(keep(long)))
	wantBoth(t, steps(ins(long)), steps(ins(long+"y")), steps(del(long), ins(long+"y")))
	wantNever(t, steps(del(long)), steps(del(long+"y")))
}

func TestManySteps(t *testing.T) {
	const n = 100000
	many := func(s string) []api.Op { return slices.Repeat(drawn(s), n) }
	for i, x := range []struct{ p, q, want []api.Op }{
		{many("1"), nil, steps(skip(n))},
		{steps(skip(n)), many("1"), steps(skip(n))},
		{many("1"), many("-a"), many("-a")},
		{many("-a"), many("1"), many("+a")},
		{many("-a"), many("-a"), nil},
		{many("-a+b"), many("-a"), many("-b")},
		{many("+a"), many("+a"), many("=a")},
		{many("-a+b1"), many("-a+c1"), many("-b+c1")},
		{many("-a+b1"), many("-a+b1"), many("=b1")},
		{many("-a+b+c1"), many("-a+c1"), many("-b=c1")},
	} {
		got, ok := inter.Ops(x.p, x.q)
		if !ok || !slices.Equal(got, x.want) {
			t.Errorf("P1401: Ops %d of %d steps and %d: %d, %v", i, len(x.p), len(x.q), len(got), ok)
		}
	}
}

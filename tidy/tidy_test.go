package tidy_test

import (
	"math"
	"slices"
	"strconv"
	"strings"
	"testing"

	"patchwork/api"
	"patchwork/apply"
	"patchwork/ops"
	"patchwork/tidy"
)

// skip, keep, del, ins make steps, steps and file list them and lines.
func skip(n int) api.Op          { return api.Op{Kind: api.Skip, N: n} }
func keep(s string) api.Op       { return api.Op{Kind: api.Keep, Text: s} }
func del(s string) api.Op        { return api.Op{Kind: api.Del, Text: s} }
func ins(s string) api.Op        { return api.Op{Kind: api.Ins, Text: s} }
func steps(l ...api.Op) []api.Op { return l }
func file(l ...string) []string  { return l }

// drawn makes steps of pairs such as =a, -b and +c, and of digits, each so many lines that are not known.
func drawn(s string) []api.Op {
	var out []api.Op
	for s != "" {
		if n, err := strconv.Atoi(s[:1]); err == nil {
			out, s = append(out, skip(n)), s[1:]
			continue
		}
		kind := map[byte]int{'=': api.Keep, '-': api.Del, '+': api.Ins}[s[0]]
		out, s = append(out, api.Op{Kind: kind, Text: s[1:2] + "\n"}), s[2:]
	}
	return out
}

// want holds both calls against what must come.
func want(t *testing.T, l, tidied []api.Op, idle bool) {
	t.Helper()
	if got := tidy.Ops(l); !slices.Equal(got, tidied) {
		t.Errorf("P1301: Ops of %#v: %#v; wanted %#v", l, got, tidied)
	}
	if got := tidy.Idle(l); got != idle {
		t.Errorf("P1301: Idle of %#v: %v", l, got)
	}
}

func TestNone(t *testing.T) {
	for _, l := range [][]api.Op{nil, {}, make([]api.Op, 0, 3), steps(del("a\n"), ins("b\n"))[:0]} {
		want(t, l, nil, true)
	}
}

func TestSkips(t *testing.T) {
	const most = api.MaxNum
	a, b := "a\n", "b\n"
	for _, x := range []struct{ l, want []api.Op }{
		{steps(skip(1)), steps(skip(1))},
		{steps(skip(most)), steps(skip(most))},
		{steps(skip(1), skip(1)), steps(skip(2))},
		{steps(skip(1), skip(2), skip(most-3)), steps(skip(most))},
		{slices.Repeat(steps(skip(1<<16)), 1<<15), steps(skip(most))},
		{drawn("1=a"), drawn("1=a")},
		{drawn("=a1"), drawn("=a1")},
		{drawn("12=a34=b45"), drawn("3=a7=b9")},
		{steps(skip(most-1), del(a), ins(a)), steps(skip(most-1), keep(a))},
		{steps(ins(a), del(a), skip(most-1)), steps(keep(a), skip(most-1))},
	} {
		want(t, x.l, x.want, true)
	}
	for _, x := range []struct{ l, want []api.Op }{
		{drawn("1-a"), drawn("1-a")},
		{drawn("-a1"), drawn("-a1")},
		{drawn("1+a"), drawn("1+a")},
		{drawn("+a1"), drawn("+a1")},
		{drawn("11+a22"), drawn("2+a4")},
		{drawn("11-a22+b33"), drawn("2-a4+b6")},
		{drawn("1+b-a2+d-c3"), drawn("1-a+b2-c+d3")},
		{steps(del(a), skip(most-1), ins(a)), steps(del(a), skip(most-1), ins(a))},
		{steps(ins(b), del(a), skip(most-1)), steps(del(a), ins(b), skip(most-1))},
		{steps(skip(1<<30), skip(1<<30-1), ins(b), del(a)), steps(skip(most-1), del(a), ins(b))},
	} {
		want(t, x.l, x.want, false)
	}
}

// A Skip parts what goes from what comes: lines that are not known stand between them.
func TestSkipsBetween(t *testing.T) {
	for _, x := range []struct {
		l, want string
		idle    bool
	}{
		{"-a1+a", "-a1+a", false},
		{"+a1-a", "+a1-a", false},
		{"-a12+a", "-a3+a", false},
		{"-a1=a1+a", "-a1=a1+a", false},
		{"-a=b1=b+a", "-a=b1=b+a", false},
		{"-a-b1+a+b", "-a-b1+a+b", false},
		{"-a+b1-b+a", "-a+b1-b+a", false},
		{"+b-a1+a-b", "-a+b1-b+a", false},
		{"-a+a1-b+b", "=a1=b", true},
		{"-a1-a+a1+a", "-a1=a1+a", false},
		{"-a+a1-a1+a", "=a1-a1+a", false},
		{"-a+x1+a-a2=b+y3-c+c-d", "-a+x1=a2=b+y3=c-d", false},
		{"-a=b+a1-a=b+a", "-a=b+a1-a=b+a", false},
	} {
		want(t, drawn(x.l), drawn(x.want), x.idle)
	}
}

// wantAmid holds a stretch against what must come, alone and with Skips and other stretches beside it.
func wantAmid(t *testing.T, l, tidied string, idle bool) {
	t.Helper()
	type beside struct {
		l, tidied string
		idle      bool
	}
	for _, ahead := range []beside{{"", "", true}, {"1", "1", true}, {"=q2", "=q2", true}, {"-q+q2", "=q2", true}, {"+r-q2", "-q+r2", false}} {
		for _, behind := range []beside{{"", "", true}, {"1", "1", true}, {"4=q", "4=q", true}, {"4+q-q5", "4=q5", true}, {"6+q", "6+q", false}} {
			want(t, drawn(ahead.l+l+behind.l), drawn(ahead.tidied+tidied+behind.tidied), idle && ahead.idle && behind.idle)
		}
	}
}

func TestStretchesThatAreIdle(t *testing.T) {
	for _, x := range []struct{ l, want string }{
		// What stays
		{"=a", "=a"},
		{"=a=a=b", "=a=a=b"},
		// The same line goes and comes, in either order.
		{"-a+a", "=a"},
		{"+a-a", "=a"},
		{"-a-b+a+b", "=a=b"},
		{"+a+b-a-b", "=a=b"},
		{"-a+a-b+b", "=a=b"},
		{"-a+a+b-b", "=a=b"},
		{"+a-a-a+a", "=a=a"},
		{"+a-a-b+b+a-a", "=a=b=a"},
		// With others between that stay
		{"-a=a+a", "=a=a"},
		{"+a=a-a", "=a=a"},
		{"-a=a=a=a+a", "=a=a=a=a"},
		{"+a-a=b-a=a+a=b", "=a=b=a=a=b"},
		// Lines that stay while others go and come again
		{"=a-b+b=c", "=a=b=c"},
		{"=a-b-c+b+c=d", "=a=b=c=d"},
		{"-a+a=b-c+c=d-e+e", "=a=b=c=d=e"},
	} {
		wantAmid(t, x.l, x.want, true)
	}
}

func TestStretchesThatTurnSomething(t *testing.T) {
	for _, x := range []struct{ l, want string }{
		// What goes, what comes
		{"-a", "-a"},
		{"-a-a-b", "-a-a-b"},
		{"+a", "+a"},
		{"+a+a+b", "+a+a+b"},
		{"-a+b", "-a+b"},
		{"+b-a", "-a+b"},
		{"+c-a+d-b", "-a-b+c+d"},
		// The same line goes and comes, with others that go and come between.
		{"-a-b+b+a", "-a=b+a"},
		{"+b+a-a-b", "-a=b+a"},
		{"-a+b-b+a", "-a=b+a"},
		{"-a-b+a", "=a-b"},
		{"-a-b+b", "-a=b"},
		{"-a+b+a", "+b=a"},
		{"+b-a+a", "+b=a"},
		{"+a+b-a", "=a+b"},
		{"+a-b-a", "-b=a"},
		{"-a-b+b+x", "-a=b+x"},
		{"-a-x-b+a+y+b", "=a-x+y=b"},
		{"+a+y+b-a-x-b", "=a-x+y=b"},
		{"-x-a-b-c+a+b+c+y", "-x=a=b=c+y"},
		{"-c+a-b+b-a+c", "-c-b=a+b+c"},
		// With others that stay
		{"-a=b+a", "-a=b+a"},
		{"+a=b-a", "-b=a+b"},
		{"+b=a-b", "-a=b+a"},
		{"-a=b+b", "-a=b+b"},
		{"+a=b=c-a", "+a=b=c-a"},
		{"-a=b=c+a", "-a=b=c+a"},
		{"-a=b+a-b=a+b", "-a=b-b=a+a+b"},
		{"-a+b=x-b+a", "-a-x=b+x+a"},
		{"-a+b=b-b+a", "-a=b=b+a"},
		// Lines that stay while others go and come again, and others that do not
		{"=a-b+x=c-d+d=e", "=a-b+x=c=d=e"},
		{"=a-b=c+x-d+d=e", "=a-b=c+x=d=e"},
		{"=k+a-b+c-d=l", "=k-b-d+a+c=l"},
		{"=k+a+b-b-c=l", "=k+a=b-c=l"},
		// What stayed goes and comes, as others then stay that are more.
		{"-a-b-c=d+a+b+c", "+d=a=b=c-d"},
		{"-a-b=c+a+b", "+c=a=b-c"},
		{"+a+b=c-a-b", "-c=a=b+c"},
		{"=c-a-b+x+a+b", "=c+x=a=b"},
		// The same line stays, but the first of them.
		{"-a=a", "=a-a"},
		{"+a=a", "=a+a"},
		{"=a-a=a=b", "=a=a-a=b"},
		{"=a-b=a-b", "=a-b=a-b"},
		{"-a-b=a=b", "=a=b-a-b"},
		{"+a+b=a=b", "=a=b+a+b"},
		{"-x=a-x=a", "-x=a-x=a"},
		{"-x-a=x=a", "=x=a-x-a"},
	} {
		wantAmid(t, x.l, x.want, false)
	}
}

// A line is another one, if one is open and one is not.
func TestOpenLines(t *testing.T) {
	a := "a\n"
	for _, x := range []struct {
		l, want []api.Op
		idle    bool
	}{
		// At the end of one side
		{steps(del("z")), steps(del("z")), false},
		{steps(ins("z")), steps(ins("z")), false},
		{steps(del("z"), ins("z\n")), steps(del("z"), ins("z\n")), false},
		{steps(ins("z\n"), del("z")), steps(del("z"), ins("z\n")), false},
		{steps(del("z\n"), ins("z")), steps(del("z\n"), ins("z")), false},
		{steps(ins("z"), del("z\n")), steps(del("z\n"), ins("z")), false},
		{steps(del("z"), ins(a), ins("z\n")), steps(del("z"), ins(a), ins("z\n")), false},
		{steps(del(a), del("a"), ins(a)), steps(keep(a), del("a")), false},
		{steps(ins(a), del(a), ins("a")), steps(keep(a), ins("a")), false},
		{steps(ins(a), ins("a"), del(a)), steps(keep(a), ins("a")), false},
		{steps(ins("z"), del(a), del(a)), steps(del(a), del(a), ins("z")), false},
		{steps(del("z"), ins(a), ins(a)), steps(del("z"), ins(a), ins(a)), false},
		// At the end of both
		{steps(keep("z")), steps(keep("z")), true},
		{steps(del("z"), ins("z")), steps(keep("z")), true},
		{steps(ins("z"), del("z")), steps(keep("z")), true},
		{steps(del("z"), ins("y")), steps(del("z"), ins("y")), false},
		{steps(ins("y"), del("z")), steps(del("z"), ins("y")), false},
		{steps(del(a), del("z"), ins(a), ins("z")), steps(keep(a), keep("z")), true},
		{steps(ins(a), ins("z"), del(a), del("z")), steps(keep(a), keep("z")), true},
		{steps(ins(a), del("z"), ins("z")), steps(ins(a), keep("z")), false},
		{steps(del(a), ins("z"), del("z")), steps(del(a), keep("z")), false},
		{steps(del("z"), ins(a), ins("z")), steps(ins(a), keep("z")), false},
		{steps(del(a), ins(a), keep("z")), steps(keep(a), keep("z")), true},
		{steps(ins(a), keep("z")), steps(ins(a), keep("z")), false},
		{steps(del(a), keep("z")), steps(del(a), keep("z")), false},
	} {
		want(t, x.l, x.want, x.idle)
		for _, ahead := range []string{"1", "=a1", "+a-a1"} {
			want(t, slices.Concat(drawn(ahead), x.l), slices.Concat(drawn(strings.Replace(ahead, "+a-a", "=a", 1)), x.want), x.idle)
		}
	}
	// Ahead of a Skip on both sides there is none.
	for _, l := range [][]api.Op{{del("z"), ins("z"), skip(1)}, {keep("z"), skip(1)}, {ins("z"), skip(1)}, {del("z"), skip(1), ins("z")}} {
		want(t, l, nil, true)
	}
}

// wrong lists steps that can't be, whatever stands beside them.
func wrong() []api.Op {
	out := steps(
		skip(0), skip(-1), skip(api.MaxNum+1), skip(1<<32+1), skip(math.MaxInt), skip(math.MinInt),
		api.Op{Kind: api.Skip, N: 1, Text: "a\n"}, api.Op{Kind: api.Skip, N: 1, Text: "\x00"},
	)
	for _, kind := range []int{api.Keep, api.Del, api.Ins} {
		for _, text := range []string{"", "\n\n", "\na", "a\nb", "a\nb\n", "a\n\n"} {
			out = append(out, api.Op{Kind: kind, Text: text})
		}
		for _, n := range []int{1, -1, api.MaxNum, 1 << 32, math.MaxInt, math.MinInt} {
			out = append(out, api.Op{Kind: kind, N: n, Text: "a\n"})
		}
	}
	for _, kind := range []int{0, -1, 5, -api.Del, -api.Ins, 1<<8 + api.Del, 1<<32 + api.Ins, 1<<32 + api.Skip, math.MaxInt, math.MinInt} {
		out = append(out, api.Op{Kind: kind}, api.Op{Kind: kind, N: 1}, api.Op{Kind: kind, Text: "a\n"})
	}
	return out
}

// wantWrong holds that of steps that are not ops.Right there is nothing, and so no Del and no Ins.
func wantWrong(t *testing.T, l ...api.Op) {
	t.Helper()
	if ops.Right(l) {
		t.Errorf("%#v is right: no test of what is not", l)
	}
	want(t, l, nil, true)
}

// A step that is wrong is found wherever it stands, and where what is tidied would not have it any more, too.
func TestStepsThatAreWrongAlone(t *testing.T) {
	all := steps(skip(2), keep("a\n"), del("b\n"), ins("c\n"), skip(1), ins("d\n"), del("e\n"), keep("f\n"))
	for _, w := range wrong() {
		wantWrong(t, w)
		wantWrong(t, w, w)
		wantWrong(t, del(w.Text), ins(w.Text), w)
		for i := 0; i <= len(all); i++ {
			wantWrong(t, slices.Insert(slices.Clone(all), i, w)...)
		}
	}
}

func TestStepsThatAreWrongTogether(t *testing.T) {
	const most = api.MaxNum
	a := "a\n"
	for _, behind := range steps(skip(1), keep(a), keep("z"), del(a), del("z"), ins(a), ins("z")) {
		wantWrong(t, keep("z"), behind)
		if behind.Kind != api.Ins {
			wantWrong(t, del("z"), behind)
			wantWrong(t, del("z"), ins(a), behind)
		}
		if behind.Kind != api.Del {
			wantWrong(t, ins("z"), behind)
			wantWrong(t, ins("z"), del(a), behind)
		}
	}
	for _, l := range [][]api.Op{
		{skip(most), skip(1)},
		{skip(most), keep(a)},
		{skip(most), del(a)},
		{skip(most), ins(a)},
		{skip(most), del(a), ins(a)},
		{skip(most - 2), ins(a), keep(a), ins(a), del(a)},
		{del(a), skip(most - 1), del(a)},
		{ins(a), skip(most - 1), ins(a)},
		slices.Repeat(steps(skip(most)), 2),
		slices.Repeat(steps(skip(most)), 1<<10),
	} {
		wantWrong(t, l...)
	}
}

// wantSame holds that what is tidied makes new lines of old ones, as the steps do.
func wantSame(t *testing.T, l []api.Op, old, young []string) {
	t.Helper()
	for _, x := range [][]api.Op{l, tidy.Ops(l)} {
		if got, ok := apply.Do(x, old); !ok || !slices.Equal(got, young) {
			t.Errorf("P1302: %#v, of which %#v comes, done to %q: %q, %v; wanted %q", l, x, old, got, ok, young)
		}
	}
	if tidy.Idle(l) && !slices.Equal(old, young) {
		t.Errorf("P1302: %#v is idle, and makes %q of %q", l, young, old)
	}
}

func TestTheSameIsDone(t *testing.T) {
	abc, abz := file("a\n", "b\n", "c\n"), file("a\n", "b\n", "z")
	for _, x := range []struct {
		l          []api.Op
		old, young []string
	}{
		{nil, nil, nil},
		{nil, abz, abz},
		{steps(skip(2)), abz, abz},
		{drawn("-a+a"), abc, abc},
		{drawn("+a-a"), abc, abc},
		{drawn("-a+b"), abc, file("b\n", "b\n", "c\n")},
		{drawn("1-b=c+b"), abc, file("a\n", "c\n", "b\n")},
		{drawn("-a1+a"), abc, file("b\n", "a\n", "c\n")},
		{drawn("-a1+a"), file("a\n", "a\n"), file("a\n", "a\n")},
		{drawn("-a-b-c+x+a+b+c+y"), abc, file("x\n", "a\n", "b\n", "c\n", "y\n")},
		{drawn("-a=b-c+c+a"), abc, file("b\n", "c\n", "a\n")},
		{steps(skip(2), del("z"), ins("z\n")), abz, file("a\n", "b\n", "z\n")},
		{steps(skip(2), ins("z"), del("z")), abz, abz},
		{steps(ins("a\n"), ins("z"), del("a\n"), del("b\n"), del("z")), abz, file("a\n", "z")},
		{steps(ins("x")), nil, file("x")},
	} {
		wantSame(t, x.l, x.old, x.young)
	}
}

// Steps that can't be done to lines can't when they are tidied, though there be less to hold them against.
func TestWhatIsNotDone(t *testing.T) {
	abc, abz := file("a\n", "b\n", "c\n"), file("a\n", "b\n", "z")
	for _, x := range []struct {
		l   []api.Op
		old []string
	}{
		{drawn("-x+x"), abc},
		{drawn("+x-x"), abc},
		{drawn("-a+a"), nil},
		{drawn("1-a+a"), abc},
		{drawn("=a-b+b=d"), abc},
		{drawn("4"), abc},
		{drawn("2-z+z"), abz},
		{steps(skip(2), del("c"), ins("c")), abc},
		{steps(del("a\n"), ins("a\n"), skip(2), ins("x\n")), abz},
		{steps(del("a"), ins("a")), abz},
		{steps(ins("x")), abc},
		{steps(skip(0)), abc},
		{drawn("-a+a"), file("a\n", "b", "c\n")},
	} {
		if apply.Fits(x.l, x.old) {
			t.Errorf("%#v can be done to %q: no test of what can't", x.l, x.old)
		}
		// Of what is not Right nothing comes, and nothing can be done to all lines.
		if l := tidy.Ops(x.l); ops.Right(x.l) && apply.Fits(l, x.old) {
			t.Errorf("P1302: %#v, of which %#v comes, can be done to %q", x.l, l, x.old)
		}
	}
}

func TestAnyBytes(t *testing.T) {
	var l, tidied []api.Op
	for b := range 256 {
		if b == '\n' {
			continue
		}
		line, other := string([]byte{byte(b), 0xff, 0, '\n'}), string([]byte{0xfe, byte(b), '\n'})
		l = append(l, skip(b+1), ins(other), keep(line), del(other), ins(line), del(line))
		tidied = append(tidied, skip(b+1), del(line), keep(other), keep(line), ins(line))
	}
	want(t, l, tidied, false)
	for b := range 256 {
		for other := range 256 {
			if b == '\n' || other == '\n' {
				continue // no line has it amid its bytes
			}
			one, two := "x"+string([]byte{byte(b)})+"y\n", "x"+string([]byte{byte(other)})+"y\n"
			if b == other {
				want(t, steps(del(one), ins(two)), steps(keep(one)), true)
			} else {
				want(t, steps(ins(two), del(one)), steps(del(one), ins(two)), false)
			}
		}
	}
	long := strings.Repeat("x", 1<<22)
	want(t, steps(ins(long), del(long)), steps(keep(long)), true)
	want(t, steps(ins(long+"y"), del(long)), steps(del(long), ins(long+"y")), false)
}

func TestManySteps(t *testing.T) {
	const n = 200000
	for _, x := range []struct {
		l, want []api.Op
		idle    bool
	}{
		{slices.Repeat(drawn("1"), n), steps(skip(n)), true},
		{slices.Repeat(drawn("=a"), n), slices.Repeat(drawn("=a"), n), true},
		{slices.Repeat(drawn("-a"), n), slices.Repeat(drawn("-a"), n), false},
		{slices.Repeat(drawn("+a"), n), slices.Repeat(drawn("+a"), n), false},
		{slices.Repeat(drawn("+a-a"), n), slices.Repeat(drawn("=a"), n), true},
		{slices.Repeat(drawn("+a-a1"), n), slices.Repeat(drawn("=a1"), n), true},
		{slices.Repeat(drawn("+a-b1"), n), slices.Repeat(drawn("-b+a1"), n), false},
		{slices.Concat(slices.Repeat(drawn("-a-b"), n), slices.Repeat(drawn("+a+b"), n)), slices.Repeat(drawn("=a=b"), n), true},
		{slices.Repeat(drawn("-a-b+b+a1"), n), slices.Repeat(drawn("-a=b+a1"), n), false},
	} {
		if got := tidy.Ops(x.l); !slices.Equal(got, x.want) {
			t.Errorf("P1301: Ops of %d steps %v..: %d steps; wanted %d others", len(x.l), x.l[:4], len(got), len(x.want))
		}
		if got := tidy.Idle(x.l); got != x.idle {
			t.Errorf("P1301: Idle of %d steps %v..: %v", len(x.l), x.l[:4], got)
		}
	}
}

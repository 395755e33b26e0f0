package apply_test

import (
	"math"
	"slices"
	"strconv"
	"testing"

	"patchwork/api"
	"patchwork/apply"
)

// skip, keep, del, ins make steps, steps and file list them and lines.
func skip(n int) api.Op          { return api.Op{Kind: api.Skip, N: n} }
func keep(s string) api.Op       { return api.Op{Kind: api.Keep, Text: s} }
func del(s string) api.Op        { return api.Op{Kind: api.Del, Text: s} }
func ins(s string) api.Op        { return api.Op{Kind: api.Ins, Text: s} }
func steps(l ...api.Op) []api.Op { return l }
func file(l ...string) []string  { return l }

// wantDone holds Do and Fits against the lines that must come.
func wantDone(t *testing.T, l []api.Op, old, want []string) {
	t.Helper()
	if got, ok := apply.Do(l, old); !ok || !slices.Equal(got, want) {
		t.Errorf("P901: Do of %#v, %q: %q, %v; wanted %q", l, old, got, ok, want)
	}
	if !apply.Fits(l, old) {
		t.Errorf("P901: Fits of %#v, %q: false", l, old)
	}
}

// wantNot holds that steps can't be done, and that nothing is answered then.
func wantNot(t *testing.T, l []api.Op, old []string) {
	t.Helper()
	if got, ok := apply.Do(l, old); ok || len(got) != 0 {
		t.Errorf("P901: Do of %#v, %q: %q, %v", l, old, got, ok)
	}
	if apply.Fits(l, old) {
		t.Errorf("P901: Fits of %#v, %q: true", l, old)
	}
}

func TestNoSteps(t *testing.T) {
	for _, l := range [][]api.Op{nil, {}, make([]api.Op, 0, 3)} {
		for _, old := range [][]string{nil, {}, make([]string, 0, 3), {"a\n"}, {"a"}, {"a\n", "b\n"}, {"a\n", "b"}, {"\n", "\n"}, {"\x00\xff"}} {
			wantDone(t, l, old, old)
		}
		for _, old := range notWhole() {
			wantNot(t, l, old)
		}
	}
}

func TestNoLines(t *testing.T) {
	for _, old := range [][]string{nil, {}, make([]string, 0, 3)} {
		wantDone(t, steps(ins("a\n")), old, file("a\n"))
		wantDone(t, steps(ins("a")), old, file("a"))
		wantDone(t, steps(ins("a\n"), ins("\n"), ins("b")), old, file("a\n", "\n", "b"))
		for _, o := range steps(skip(1), skip(2), skip(api.MaxNum), keep("a\n"), keep("a"), del("a\n"), del("a")) {
			wantNot(t, steps(o), old)
		}
		wantNot(t, steps(ins("a\n"), skip(1)), old)
		wantNot(t, steps(skip(1), ins("a\n")), old)
		wantNot(t, steps(ins("a\n"), keep("a\n")), old)
		wantNot(t, steps(ins("a\n"), del("a\n")), old)
		wantNot(t, steps(del("a\n"), ins("a\n")), old)
	}
}

func TestAllSteps(t *testing.T) {
	old := file("a\n", "b\n", "c\n", "d\n", "e\n", "f\n")
	wantDone(t, steps(skip(1), del("b\n"), ins("x\n"), keep("c\n"), ins("y\n"), skip(1), del("e\n")), old, file("a\n", "x\n", "c\n", "y\n", "d\n", "f\n"))
	wantDone(t, steps(ins("x\n"), del("a\n"), skip(2), del("d\n"), keep("e\n"), keep("f\n"), ins("z")), old, file("x\n", "b\n", "c\n", "e\n", "f\n", "z"))
}

func TestSkip(t *testing.T) {
	for _, old := range [][]string{{"a\n", "b\n", "c\n"}, {"a\n", "b\n", "c"}} {
		for n := 1; n <= 3; n++ {
			wantDone(t, steps(skip(n)), old, old)
		}
		for _, n := range []int{4, 5, 1 << 16, api.MaxNum - 1, api.MaxNum} {
			wantNot(t, steps(skip(n)), old)
		}
		for _, n := range []int{0, -1, -3, api.MaxNum + 1, 1<<32 + 1, math.MaxInt, math.MinInt} {
			wantNot(t, steps(skip(n)), old)
		}
	}
}

func TestSkipsSideBySide(t *testing.T) {
	old := file("a\n", "b\n", "c\n", "d")
	for _, l := range [][]api.Op{{skip(1), skip(1)}, {skip(2), skip(1)}, {skip(1), skip(3)}, {skip(2), skip(2)}, {skip(1), skip(1), skip(1), skip(1)}} {
		wantDone(t, l, old, old)
	}
	for _, l := range [][]api.Op{{skip(4), skip(1)}, {skip(1), skip(4)}, {skip(3), skip(2)}, {skip(2), skip(2), skip(1)}, {skip(1), skip(api.MaxNum - 1)}, {skip(api.MaxNum - 1), skip(1)}} {
		wantNot(t, l, old)
	}
	wantDone(t, steps(skip(1), skip(1), del("c\n"), skip(1)), old, file("a\n", "b\n", "d"))
	wantDone(t, steps(skip(1), skip(1), ins("x\n"), skip(1), skip(1)), old, file("a\n", "b\n", "x\n", "c\n", "d"))
	wantNot(t, steps(skip(1), skip(1), del("b\n")), old)
	wantNot(t, steps(skip(1), skip(1), del("d")), old)
}

func TestKeepAndDel(t *testing.T) {
	old := file("a\n", "b\n", "c")
	wantDone(t, steps(keep("a\n")), old, old)
	wantDone(t, steps(keep("a\n"), keep("b\n"), keep("c")), old, old)
	wantDone(t, steps(skip(1), keep("b\n")), old, old)
	wantDone(t, steps(skip(2), keep("c")), old, old)
	wantDone(t, steps(del("a\n")), old, file("b\n", "c"))
	wantDone(t, steps(skip(1), del("b\n")), old, file("a\n", "c"))
	wantDone(t, steps(skip(2), del("c")), old, file("a\n", "b\n"))
	wantDone(t, steps(del("a\n"), del("b\n")), old, file("c"))
	for at, line := range old {
		var ahead []api.Op
		if at > 0 {
			ahead = steps(skip(at))
		}
		for _, other := range []string{"a\n", "b\n", "c", "a", "b", "c\n", "\n", "A\n", "a \n", " a\n", "aa\n", "a\r\n", "\x00", "cc"} {
			if other != line {
				wantNot(t, slices.Concat(ahead, steps(keep(other))), old)
				wantNot(t, slices.Concat(ahead, steps(del(other))), old)
			}
		}
	}
	for _, behind := range []string{"a\n", "c", "c\n", "d"} {
		for _, closed := range [][]string{{"a\n", "b\n", "c\n"}, old} {
			wantNot(t, steps(skip(3), keep(behind)), closed)
			wantNot(t, steps(skip(3), del(behind)), closed)
			wantNot(t, steps(skip(2), keep("c\n"), keep(behind)), closed)
			wantNot(t, steps(skip(2), keep("c\n"), del(behind)), closed)
		}
	}
}

// A line that comes is none that stands there: what is known is known of the old lines alone.
func TestKeepAndDelOfALineThatComes(t *testing.T) {
	wantNot(t, steps(ins("x\n"), keep("x\n")), file("a\n"))
	wantNot(t, steps(ins("x\n"), del("x\n")), file("a\n"))
	wantDone(t, steps(ins("a\n"), keep("a\n")), file("a\n"), file("a\n", "a\n"))
	wantDone(t, steps(ins("a\n"), del("a\n")), file("a\n"), file("a\n"))
	wantNot(t, steps(del("a\n"), keep("a\n")), file("a\n", "b\n"))
	wantDone(t, steps(del("a\n"), keep("a\n")), file("a\n", "a\n"), file("a\n"))
}

func TestIns(t *testing.T) {
	for _, last := range []string{"c\n", "c"} {
		old := file("a\n", "b\n", last)
		wantDone(t, steps(ins("x\n")), old, file("x\n", "a\n", "b\n", last))
		wantDone(t, steps(ins("x\n"), ins("y\n"), ins("x\n")), old, file("x\n", "y\n", "x\n", "a\n", "b\n", last))
		wantDone(t, steps(skip(1), ins("x\n")), old, file("a\n", "x\n", "b\n", last))
		wantDone(t, steps(keep("a\n"), ins("\n"), keep("b\n"), ins("y\n")), old, file("a\n", "\n", "b\n", "y\n", last))
		wantDone(t, steps(skip(2), del(last), ins("x\n"), ins("y")), old, file("a\n", "b\n", "x\n", "y"))
		wantDone(t, steps(skip(2), ins("x\n"), del(last), ins("y")), old, file("a\n", "b\n", "x\n", "y"))
	}
	old := file("a\n", "b\n")
	wantDone(t, steps(skip(2), ins("x\n")), old, file("a\n", "b\n", "x\n"))
	wantDone(t, steps(skip(2), ins("x")), old, file("a\n", "b\n", "x"))
	wantDone(t, steps(keep("a\n"), keep("b\n"), ins("x\n"), ins("y")), old, file("a\n", "b\n", "x\n", "y"))
}

func TestWhatIsLeft(t *testing.T) {
	for _, last := range []string{"e\n", "e"} {
		old := file("a\n", "b\n", "c\n", "d\n", last)
		wantDone(t, steps(skip(1)), old, old)
		wantDone(t, steps(keep("a\n")), old, old)
		wantDone(t, steps(del("a\n")), old, old[1:])
		wantDone(t, steps(ins("x\n")), old, file("x\n", "a\n", "b\n", "c\n", "d\n", last))
		wantDone(t, steps(skip(3), del("d\n")), old, file("a\n", "b\n", "c\n", last))
		wantDone(t, steps(skip(3), del("d\n"), ins("x\n")), old, file("a\n", "b\n", "c\n", "x\n", last))
	}
}

func TestOpenLineAtTheEnd(t *testing.T) {
	old := file("a\n", "z")
	// it stays
	wantDone(t, steps(skip(2)), old, old)
	wantDone(t, steps(skip(1), keep("z")), old, old)
	wantDone(t, steps(del("a\n")), old, file("z"))
	// it goes
	wantDone(t, steps(skip(1), del("z")), old, file("a\n"))
	wantDone(t, steps(skip(1), del("z"), ins("z\n")), old, file("a\n", "z\n"))
	wantDone(t, steps(skip(1), del("z"), ins("z\n"), ins("y")), old, file("a\n", "z\n", "y"))
	wantDone(t, steps(skip(1), del("z"), ins("z")), old, old)
	wantDone(t, steps(skip(1), ins("y"), del("z")), old, file("a\n", "y"))
	// something would stand behind it
	for _, text := range []string{"y\n", "y", "\n", "z"} {
		wantNot(t, steps(skip(2), ins(text)), old)
		wantNot(t, steps(skip(1), skip(1), ins(text)), old)
		wantNot(t, steps(skip(1), keep("z"), ins(text)), old)
		wantNot(t, steps(skip(1), ins(text)), file("z"))
	}
}

func TestInsThatIsOpen(t *testing.T) {
	for _, last := range []string{"b\n", "b"} {
		old := file("a\n", last)
		wantNot(t, steps(ins("x")), old)
		wantNot(t, steps(skip(1), ins("x")), old)
		wantNot(t, steps(keep("a\n"), ins("x")), old)
		wantNot(t, steps(del("a\n"), ins("x")), old)
		wantNot(t, steps(ins("x"), del("a\n")), old)
		wantDone(t, steps(skip(1), ins("x"), del(last)), old, file("a\n", "x"))
		wantDone(t, steps(ins("x"), del("a\n"), del(last)), old, file("x"))
		wantDone(t, steps(del("a\n"), del(last), ins("x")), old, file("x"))
		wantNot(t, steps(skip(1), ins("x"), ins("y\n")), old)
		wantNot(t, steps(ins("x"), skip(1)), old)
		wantNot(t, steps(ins("x"), keep("a\n")), old)
	}
}

// That nothing comes of it is another thing than that it can't be done.
func TestNothingIsLeft(t *testing.T) {
	wantDone(t, steps(del("a\n")), file("a\n"), nil)
	wantDone(t, steps(del("a")), file("a"), nil)
	wantDone(t, steps(del("a\n"), del("b\n"), del("c")), file("a\n", "b\n", "c"), nil)
	wantNot(t, steps(del("a\n"), del("b\n"), del("c")), file("a\n", "b\n"))
	wantNot(t, steps(del("a\n"), del("b\n"), del("c")), file("a\n", "b\n", "c\n"))
}

// notWhole lists what are no lines of a file.
func notWhole() [][]string {
	return [][]string{
		{""}, {"a\nb"}, {"a\nb\n"}, {"\n\n"}, {"\na"},
		{"a", "b"}, {"a", "b\n"}, {"a\n", "b", "c\n"}, {"a\n", "b", "c"},
		{"", "a\n"}, {"a\n", ""}, {"a\n", "", "b\n"}, {"a\n", "b\n", "c\nd"},
	}
}

func TestLinesThatAreNotWhole(t *testing.T) {
	for _, old := range notWhole() {
		wantNot(t, steps(ins("x\n")), old)
		wantNot(t, steps(skip(1)), old)
		wantNot(t, steps(skip(len(old))), old)
		wantNot(t, steps(keep("a\n")), old)
		var all []api.Op
		for _, line := range old {
			all = append(all, del(line))
		}
		wantNot(t, all, old)
		// What would come of it is whole.
		for i := range old {
			if i > 0 {
				wantNot(t, append(steps(skip(i)), all[i:]...), old)
			}
			wantNot(t, all[:i+1], old)
		}
	}
	wantNot(t, steps(del("a")), file("a", "b"))
	wantNot(t, steps(skip(1), del("b")), file("a", "b"))
	wantNot(t, steps(del("a\n")), file("a\n", ""))
}

// notRight lists steps that can't be, each of which could be done by its letters.
func notRight() [][]api.Op {
	wrong := steps(
		skip(0), skip(-1), skip(math.MinInt), skip(api.MaxNum+1), skip(math.MaxInt),
		api.Op{Kind: api.Skip, N: 1, Text: "a\n"},
		api.Op{}, api.Op{Kind: 5}, api.Op{Kind: -1, N: 1}, api.Op{Kind: 5, Text: "a\n"}, api.Op{Kind: 1<<32 + api.Keep, Text: "a\n"}, api.Op{Kind: 1<<8 + api.Ins, Text: "a\n"},
		keep(""), del(""), ins(""), keep("a\nb\n"), del("a\nb\n"), ins("a\nb\n"), ins("\n\n"), ins("a\nb"),
		api.Op{Kind: api.Keep, N: 1, Text: "a\n"}, api.Op{Kind: api.Del, N: -1, Text: "a\n"}, api.Op{Kind: api.Ins, N: 1, Text: "a\n"},
	)
	var out [][]api.Op
	for _, w := range wrong {
		out = append(out, steps(w), steps(ins("x\n"), w), steps(w, ins("x\n")))
	}
	return append(out,
		steps(keep("a"), skip(1)), steps(del("a"), del("b\n")), steps(del("a"), skip(1)), steps(ins("a"), ins("b\n")), steps(ins("a"), skip(1)), steps(keep("a"), ins("b\n")),
		steps(skip(api.MaxNum), skip(1)), steps(skip(api.MaxNum), ins("a\n")), steps(skip(api.MaxNum), del("a\n")),
	)
}

func TestStepsThatAreNotRight(t *testing.T) {
	for _, l := range notRight() {
		for _, old := range [][]string{nil, {"a\n"}, {"a"}, {"a\n", "b\n"}, {"a\n", "b"}, {"a\n", "b\n", "c\n", "d\n"}, {"", "a\n"}} {
			wantNot(t, l, old)
		}
	}
}

func TestAnyBytes(t *testing.T) {
	var old, want []string
	var l []api.Op
	for b := range 256 {
		if b == '\n' {
			continue
		}
		line := string([]byte{byte(b), 0xff, 0, byte(b), '\n'})
		old = append(old, line)
		switch b % 3 {
		case 0:
			l, want = append(l, keep(line)), append(want, line)
		case 1:
			l = append(l, del(line))
		default:
			l, want = append(l, skip(1), ins(line)), append(want, line, line)
		}
	}
	wantDone(t, l, old, want)
	for i, o := range l {
		if o.Kind != api.Keep && o.Kind != api.Del {
			continue
		}
		turned := slices.Clone(l)
		bytes := []byte(o.Text)
		bytes[1] = 0xfe
		turned[i].Text = string(bytes)
		wantNot(t, turned, old)
	}
}

func TestManyLinesAndSteps(t *testing.T) {
	const n = 200000
	var old, want []string
	var l []api.Op
	for i := range n {
		line := strconv.Itoa(i) + "\n"
		old = append(old, line)
		switch i % 4 {
		case 0:
			l, want = append(l, skip(1)), append(want, line)
		case 1:
			l, want = append(l, keep(line)), append(want, line)
		case 2:
			l = append(l, del(line))
		default:
			l, want = append(l, ins("x\n"), del(line), ins("y\n")), append(want, "x\n", "y\n")
		}
	}
	for _, x := range []struct {
		l    []api.Op
		old  []string
		want []string
		ok   bool
	}{
		{l, old, want, true},
		{l[:1], old, old, true},
		{steps(skip(n)), old, old, true},
		{steps(skip(n-1), del(old[n-1])), old, old[:n-1], true},
		{steps(skip(n + 1)), old, nil, false},
		{append(slices.Clip(l), skip(1)), old, nil, false},
		{l, old[:n-1], nil, false},
	} {
		if got, ok := apply.Do(x.l, x.old); ok != x.ok || !slices.Equal(got, x.want) || apply.Fits(x.l, x.old) != x.ok {
			t.Errorf("P901: Do of %d steps, %d lines: %d lines, %v", len(x.l), len(x.old), len(got), ok)
		}
	}
}

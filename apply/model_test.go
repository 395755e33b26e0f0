package apply_test

import (
	"math/rand/v2"
	"slices"
	"strings"
	"testing"

	"patchwork/api"
	"patchwork/apply"
	"patchwork/lines"
	"patchwork/ops"
)

// slowDo takes the lines one by one, by the words of the chapter; each Skip is as many of one line.
func slowDo(l []api.Op, old []string) ([]string, bool) {
	if !ops.Right(l) || !lines.Whole(old) {
		return nil, false
	}
	queue := slices.Clone(old)
	var out []string
	for _, o := range l {
		for times := max(o.N, 1); times > 0; times-- {
			if o.Kind == api.Ins {
				out = append(out, o.Text)
				continue
			}
			if len(queue) == 0 || (o.Kind != api.Skip && queue[0] != o.Text) {
				return nil, false
			}
			if o.Kind != api.Del {
				out = append(out, queue[0])
			}
			queue = queue[1:]
		}
	}
	out = append(out, queue...)
	// A file's lines are those that its text is cut into.
	if !slices.Equal(lines.Split(strings.Join(out, "")), out) {
		return nil, false
	}
	return out, true
}

// hold holds both calls against the slow one, and tells what that says.
func hold(t *testing.T, l []api.Op, old []string) bool {
	t.Helper()
	want, ok := slowDo(l, old)
	if got, is := apply.Do(l, old); is != ok || !slices.Equal(got, want) {
		t.Errorf("P901: Do of %#v, %q: %q, %v; wanted %q, %v", l, old, got, is, want, ok)
	}
	if apply.Fits(l, old) != ok {
		t.Errorf("P901: Fits of %#v, %q: %v", l, old, !ok)
	}
	return ok
}

// lists answers every list of up to most of the things in of.
func lists[T any](of []T, most int) [][]T {
	out := [][]T{nil}
	for from := 0; most > 0; most-- {
		upTo := len(out)
		for _, l := range out[from:upTo] {
			for _, one := range of {
				out = append(out, append(slices.Clip(l), one))
			}
		}
		from = upTo
	}
	return out
}

func TestAllShortLists(t *testing.T) {
	olds := lists(file("a\n", "b\n", "a", "b"), 3)
	done := 0
	for _, l := range lists(steps(skip(1), skip(2), keep("a\n"), keep("b"), del("a\n"), del("b"), ins("a\n"), ins("b")), 4) {
		for _, old := range olds {
			if hold(t, l, old) {
				done++
			}
		}
	}
	if done < 3000 {
		t.Errorf("P901: %d are done: too few to tell anything", done)
	}
}

func TestAllShortListsWithWrongOnes(t *testing.T) {
	olds := lists(file("a\n", "b", "", "a\nb", "\n\n"), 2)
	for _, l := range lists(steps(skip(0), skip(-1), skip(1), skip(api.MaxNum), skip(api.MaxNum+1), keep("a\n"), keep(""), del("b"), del("a\nb"), ins("a\n"), ins("\n\n"), api.Op{}, api.Op{Kind: 5, N: 1, Text: "a\n"}, api.Op{Kind: api.Skip, N: 1, Text: "a\n"}, api.Op{Kind: api.Keep, N: 1, Text: "a\n"}), 3) {
		for _, old := range olds {
			hold(t, l, old)
		}
	}
}

// fileByChance makes lines of a file.
func fileByChance(c *rand.Rand, n int) []string {
	var out []string
	for range n {
		out = append(out, strings.Repeat("x", c.IntN(2))+string(rune('a'+c.IntN(3)))+"\n")
	}
	if n > 0 && c.IntN(3) == 0 {
		out[n-1] = strings.TrimSuffix(out[n-1], "\n")
	}
	return out
}

// stepsByChance makes steps that can be done to these lines, mostly, and what comes of them.
func stepsByChance(c *rand.Rand, old []string) ([]api.Op, []string) {
	var l []api.Op
	var want []string
	for len(old) > 0 || c.IntN(2) == 0 {
		if c.IntN(8) == 0 {
			break
		}
		n := 1
		switch c.IntN(4) {
		case 0:
			line := fileByChance(c, 1)[0]
			if len(old) > 0 {
				line = strings.TrimSuffix(line, "\n") + "\n"
			}
			l, want, n = append(l, ins(line)), append(want, line), 0
		case 1:
			if n = c.IntN(len(old) + 1); n > 0 {
				l, want = append(l, skip(n)), append(want, old[:n]...)
			}
		case 2:
			if n = min(n, len(old)); n > 0 {
				l, want = append(l, keep(old[0])), append(want, old[0])
			}
		default:
			if n = min(n, len(old)); n > 0 {
				l = append(l, del(old[0]))
			}
		}
		old = old[n:]
	}
	return l, append(want, old...)
}

// turn turns one step into something else.
func turn(c *rand.Rand, l []api.Op) []api.Op {
	out := slices.Clone(l)
	if len(out) == 0 {
		return out
	}
	i := c.IntN(len(out))
	switch c.IntN(6) {
	case 0:
		return slices.Delete(out, i, i+1)
	case 1:
		return slices.Insert(out, i, out[i])
	case 2:
		out[i].N += c.IntN(5) - 2
	case 3:
		out[i].Kind += c.IntN(5) - 2
	case 4:
		out[i].Text = strings.TrimSuffix(out[i].Text, "\n")
	default:
		out[i].Text = fileByChance(c, 1)[0]
	}
	return out
}

func TestListsByChance(t *testing.T) {
	c := rand.New(rand.NewPCG(9, 1))
	const times = 20000
	made, done, not := 0, 0, 0
	for range times {
		old := fileByChance(c, c.IntN(12))
		l, want := stepsByChance(c, old)
		if hold(t, l, old) {
			made++
			wantDone(t, l, old, want)
		}
		other, others := turn(c, l), fileByChance(c, c.IntN(12))
		for _, fits := range []bool{hold(t, other, old), hold(t, l, others), hold(t, other, others)} {
			if fits {
				done++
			} else {
				not++
			}
		}
	}
	if made < times/2 || done < times/4 || not < times/4 {
		t.Errorf("P901: %d of those made, %d of the turned ones are done, %d are not: too few of one sort to tell anything", made, done, not)
	}
}

package nfa

import (
	"strings"
	"testing"
	"time"

	"patchwork/api"
	"patchwork/ere"
)

// read answers the node of an expression.
func read(t *testing.T, e string) api.Node {
	t.Helper()
	n, at, errno := ere.Parse(e)
	if errno != api.OK {
		t.Fatalf("Parse(%.60q): %d, %v", e, at, errno)
	}
	return n
}

// many answers a text so often.
func many(s string, n int) string { return strings.Repeat(s, n) }

// expressions lists such as are laid out as many states, or with many ways through them.
func expressions() []string {
	return []string{
		"", "a", "ab", "a|b|c", "^$", "()*", "(()*)*", "(^*$*)*", "a*", "a+", "a?", "a{3}", "a{3,}", "a{3,5}", "a{0}", "a{0,200}", "a{200}", "a{200,}",
		"(a*)*b", "(a+)+b", "((a*)*)*b", "(a|a)*b", "(a|aa)+b", "(a?){200}b", "(a*){200}b", "(a?){100}a{100}b", "((a?){50}){20}b",
		"(a{0,200}){0,99}b", "(a{200}){99}b", "(a{200,}){99,}b", "((a*){10}){100}b", "(((a?){20}){20}){20}b", "((((a|b)?)+){9}){99}c",
		many("(", 30) + "a" + many(")*", 30) + "b", many("(", 30) + "a" + many("|a)+", 30) + "b", many("a?", 490) + "b", many("a|", 490) + "b", many("(^|a)", 190) + "b",
		"(()|a|()|^|$){200}b", "(((){0,200}){0,90}|a)b", "((^*){200}){40}b", "(($|^|a){0,200}){0,20}b",
	}
}

// Each place of a text costs what the node is, laid out, and no more: there are
// no more states than that, and each of them is told once at a place, whatever
// leads to it.
func TestStatesAreToldOnce(t *testing.T) {
	for _, e := range expressions() {
		n := read(t, e)
		m := layOut(n)
		if most := 2*ere.Size(n) + 1; len(m.states) > most {
			t.Errorf("P702: %.60q: %d states; at most %d", e, len(m.states), most)
		}
		var every []int
		for i := range m.states {
			every = append(every, i, i, len(m.states)-1-i)
		}
		w := newWalk(m, 3)
		for at := range 4 {
			told := make([]int, len(m.states))
			for i := range w.reached(every, at) {
				told[i]++
			}
			for i, k := range told {
				if k != 1 {
					t.Errorf("P702: %.60q, place %d: state %d is told %d times", e, at, i, k)
				}
			}
		}
	}
}

// What is told may be left at any state; nothing of it is told at the next place.
func TestTellingIsLeft(t *testing.T) {
	m := layOut(read(t, "(a|b|c|d)*"))
	w := newWalk(m, 10)
	for at := 0; at < 10; at += 2 {
		most, k := at/2+1, 0
		for range w.reached([]int{m.first}, at) {
			if k++; k == most {
				break
			}
		}
		if k != most {
			t.Errorf("P702: place %d: %d states are told", at, k)
		}
		var next []int
		for i := range w.reached([]int{0}, at+1) {
			next = append(next, i)
		}
		if len(next) != 1 || next[0] != 0 || m.states[0].kind != done {
			t.Errorf("P702: place %d: %v is told", at+1, next)
		}
	}
}

// soon fails if something takes longer than any way through its steps would,
// even on a busy machine.
func soon(t *testing.T, what string, f func()) {
	t.Helper()
	ended := make(chan struct{})
	go func() {
		f()
		close(ended)
	}()
	select {
	case <-ended:
	case <-time.After(90 * time.Second):
		t.Fatalf("P702: %.60s: no end", what)
	}
}

// asked is a text with what Matches and Finds must answer.
type asked struct {
	s            string
	whole, found bool
}

// ends holds both calls against what is listed, and asks that they end soon.
func ends(t *testing.T, e string, l ...asked) {
	t.Helper()
	n := read(t, e)
	soon(t, e, func() {
		for _, x := range l {
			if got := Matches(n, x.s); got != x.whole {
				t.Errorf("P702: %.60q: Matches of %d bytes: %v", e, len(x.s), got)
			}
			if got := Finds(n, x.s); got != x.found {
				t.Errorf("P702: %.60q: Finds of %d bytes: %v", e, len(x.s), got)
			}
		}
	})
}

func TestLongTexts(t *testing.T) {
	const long = 1 << 19
	row := many("a", long)
	for _, e := range []string{"a*b", "(a*)*b", "((a*)*)*b", "(a|a)*b", "(a|aa)+b", "^(a+)+b", "(a+b)+", "a+a+a+b", "(a|b)*b"} {
		ends(t, e, asked{row, false, false}, asked{row + "b", true, true}, asked{"c" + row, false, false})
	}
	ends(t, "a*$", asked{row, true, true}, asked{row + "b", false, true})
	ends(t, "a+$", asked{row + "b", false, false}, asked{row + "ba", false, true})
	ends(t, "^b", asked{row + "b", false, false}, asked{"b" + row, false, true})
	ends(t, "a.{20}b", asked{row, false, false}, asked{row + "b", false, true})
	ends(t, "b", asked{row, false, false}, asked{row + "b", false, true})
	ends(t, "", asked{row, false, true})
}

func TestGreatSizes(t *testing.T) {
	row := many("a", 500)
	for _, e := range []string{
		"(a{0,200}){0,99}b", "((a*){10}){100}b", "(((a?){20}){20}){20}b", "(a?){200}b", "((a?){50}){50}b", many("a?", 490) + "b",
		"(()|a|()){200}b", "((((a|a)?)+){9}){99}b", "(($*|^*|a*){0,200}){0,10}b",
	} {
		ends(t, e, asked{row, false, false}, asked{row + "c", false, false}, asked{row[:150] + "b", true, true}, asked{"c" + row[:150] + "b", false, true})
	}
	ends(t, "(a{50}){200}", asked{many("a", 10000), true, true}, asked{many("a", 10001), false, true})
	ends(t, "^(a{200}){99}", asked{many("a", 19799), false, false}, asked{many("a", 19799) + "b", false, false})
	ends(t, "(a{0,200}){0,99}", asked{many("a", 1000), true, true}, asked{many("a", 1000) + "b", false, true})
}

func TestTimesWithinTimes(t *testing.T) {
	row := many("a", 300)
	for _, mark := range []string{"*", "+", "?*", "{1,}", "*?", "{0,1}*"} {
		e := many("(", 30) + "a" + many(")"+mark, 30) + "b"
		ends(t, e, asked{row, false, false}, asked{row + "b", true, true}, asked{"c" + row, false, false})
	}
	ends(t, many("(", 29)+"a"+many("|a)*", 29)+"b", asked{row, false, false}, asked{row + "b", true, true})
	ends(t, many("(", 13)+"a"+many("){2}", 13), asked{many("a", 8192), true, true}, asked{many("a", 8191), false, false}, asked{many("a", 8193), false, true})
	ends(t, many("(", 8)+"a"+many("?){3}", 8)+"b", asked{row, false, false}, asked{row + "b", true, true})
	ends(t, "((((()*)*)+)?){200}", asked{"", true, true}, asked{row, false, true})
}

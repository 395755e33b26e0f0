package compose

import (
	"iter"

	"patchwork/api"
)

// nothing is the kind of a step where there is none.
const nothing = 0

// Meeting is what p and q do at one place: a Del of p alone, an Ins of q alone, or what both do to a line of the middle (to more than one, if both skip them). Where one of them does nothing, its step is zero.
type Meeting struct{ P, Q api.Op }

// Told answers the one step that does what both do, or a zero one: what p brings and q takes was never there.
func (m Meeting) Told() api.Op {
	switch {
	case m.Q.Kind == nothing:
		return m.P
	case m.P.Kind == nothing, m.P.Kind == api.Skip:
		return m.Q
	case m.Q.Kind == api.Skip:
		return m.P
	case m.P.Kind == api.Keep:
		return m.Q
	case m.Q.Kind == api.Keep:
		return m.P
	}
	return api.Op{}
}

// middle tells whether it is at a line of the middle.
func (m Meeting) middle() bool {
	return m.P.Kind != nothing && m.Q.Kind != nothing
}

// agree tells whether the line of the middle can be what both know of it.
func (m Meeting) agree() bool {
	return m.P.Kind == api.Skip || m.Q.Kind == api.Skip || m.P.Text == m.Q.Text
}

// Meetings tells, in order, where p and q meet, with the texts that are handed in; both are ops.Right.
func Meetings(p, q []api.Op) iter.Seq[Meeting] {
	return func(yield func(Meeting) bool) {
		first, second := row{left: p}, row{left: q}
		for !first.ended() || !second.ended() {
			if !yield(meet(&first, &second)) {
				return
			}
		}
	}
}

// meet goes on to the next place, and answers what is there.
func meet(p, q *row) Meeting {
	if p.next().Kind == api.Del {
		return Meeting{P: p.pass(1)}
	}
	if q.next().Kind == api.Ins {
		return Meeting{Q: q.pass(1)}
	}
	// Line by line, a Skip of MaxNum would not come to its end.
	n := min(long(p.next()), long(q.next()))
	return Meeting{p.pass(n), q.pass(n)}
}

// row is the steps that are still to be gone through, of the first one only what is left behind the lines that are gone.
type row struct {
	left []api.Op
	gone int
}

// ended tells whether no steps are left.
func (r *row) ended() bool { return len(r.left) == 0 }

// next answers the step that comes next; behind the last one the lines stay, as many as there may be.
func (r *row) next() api.Op {
	if r.ended() {
		return api.Op{Kind: api.Skip, N: api.MaxNum}
	}
	o := r.left[0]
	if o.Kind == api.Skip {
		o.N -= r.gone
	}
	return o
}

// pass answers the next step, of a Skip so many lines, and goes on behind it.
func (r *row) pass(n int) api.Op {
	o := r.next()
	switch {
	case r.ended():
	case n < long(o):
		r.gone += n
	default:
		r.left, r.gone = r.left[1:], 0
	}
	if o.Kind == api.Skip {
		o.N = n
	}
	return o
}

// long tells how many lines a step is about.
func long(o api.Op) int {
	if o.Kind == api.Skip {
		return o.N
	}
	return 1
}

package compose

import (
	"iter"

	"patchwork/api"
)

// nothing is the kind of a step where there is none.
const nothing = 0

// meeting is what p and q do at one place: a Del of p alone, an Ins of q alone, or what both do to a line of the middle (to more than one, if both skip them).
type meeting struct{ p, q api.Op }

// middle tells whether it is at a line of the middle.
func (m meeting) middle() bool {
	return m.p.Kind != nothing && m.q.Kind != nothing
}

// agree tells whether the line of the middle can be what both know of it.
func (m meeting) agree() bool {
	return m.p.Kind == api.Skip || m.q.Kind == api.Skip || m.p.Text == m.q.Text
}

// told answers the one step that does what both do, or nothing: what p brings and q takes was never there.
func (m meeting) told() api.Op {
	switch {
	case m.q.Kind == nothing:
		return m.p
	case m.p.Kind == nothing, m.p.Kind == api.Skip:
		return m.q
	case m.q.Kind == api.Skip:
		return m.p
	case m.p.Kind == api.Keep:
		return m.q
	case m.q.Kind == api.Keep:
		return m.p
	}
	return api.Op{}
}

// meetings tells, in order, where p and q meet; both are Right.
func meetings(p, q []api.Op) iter.Seq[meeting] {
	return func(yield func(meeting) bool) {
		first, second := row{left: p}, row{left: q}
		for !first.ended() || !second.ended() {
			if !yield(meet(&first, &second)) {
				return
			}
		}
	}
}

// meet goes on to the next place, and answers what is there.
func meet(p, q *row) meeting {
	if p.next().Kind == api.Del {
		return meeting{p: p.pass(1)}
	}
	if q.next().Kind == api.Ins {
		return meeting{q: q.pass(1)}
	}
	// Line by line, a Skip of MaxNum would not come to its end.
	n := min(long(p.next()), long(q.next()))
	return meeting{p.pass(n), q.pass(n)}
}

// row is the steps that are still to be gone through, of the first one only what is left behind the lines that are gone.
type row struct {
	left []api.Op
	gone int
}

// ended tells whether no steps are left.
func (r *row) ended() bool { return len(r.left) == 0 }

// next answers the step that comes next; behind the last one the lines stay, as many as there may be.
func (r *row) next() api.Op {
	if r.ended() {
		return api.Op{Kind: api.Skip, N: api.MaxNum}
	}
	o := r.left[0]
	if o.Kind == api.Skip {
		o.N -= r.gone
	}
	return o
}

// pass answers the next step, of a Skip so many lines, and goes on behind it.
func (r *row) pass(n int) api.Op {
	o := r.next()
	switch {
	case r.ended():
	case n < long(o):
		r.gone += n
	default:
		r.left, r.gone = r.left[1:], 0
	}
	if o.Kind == api.Skip {
		o.N = n
	}
	return o
}

// long tells how many lines a step is about.
func long(o api.Op) int {
	if o.Kind == api.Skip {
		return o.N
	}
	return 1
}

package nfa

import (
	"patchwork/api"
	"patchwork/sets"
)

// Kinds of states.
const (
	done    = iota // all is taken
	fork           // goes on at both next and other
	oneByte        // takes a byte of the set
	begin          // goes on at the beginning of the text alone
	end            // goes on at its end alone
)

// state of a machine: what it asks for, and where it then goes on.
type state struct {
	kind        int
	set         sets.Set
	next, other int
}

// machine is a node, laid out as states, with the one that is the first.
type machine struct {
	states []state
	first  int
}

// layOut answers a node's machine. The node must be Right: then its states are
// at most twice its Size, and one.
func layOut(n api.Node) machine {
	m := machine{}
	m.first = m.lay(n, m.add(state{kind: done}))
	return m
}

// add adds a state, and answers where it stands.
func (m *machine) add(s state) int {
	m.states = append(m.states, s)
	return len(m.states) - 1
}

// lay adds the states of a node behind which it goes on at next, and answers
// the first of them. All are laid from their ends on: where each goes on is
// known by then.
func (m *machine) lay(n api.Node, next int) int {
	switch n.Kind {
	case api.NSet:
		return m.add(state{kind: oneByte, set: n.Set, next: next})
	case api.NBegin:
		return m.add(state{kind: begin, next: next})
	case api.NEnd:
		return m.add(state{kind: end, next: next})
	case api.NCat:
		return m.layAll(n.Kids, next)
	case api.NAlt:
		return m.layEither(n.Kids, next)
	case api.NTimes:
		return m.layTimes(n, next)
	}
	return next
}

// layAll adds nodes, one behind the other.
func (m *machine) layAll(l []api.Node, next int) int {
	for i := len(l) - 1; i >= 0; i-- {
		next = m.lay(l[i], next)
	}
	return next
}

// layEither adds nodes of which one is taken.
func (m *machine) layEither(l []api.Node, next int) int {
	last := len(l) - 1
	first := m.lay(l[last], next)
	for i := last - 1; i >= 0; i-- {
		first = m.add(state{kind: fork, next: m.lay(l[i], next), other: first})
	}
	return first
}

// layTimes adds the kid of a node as often as it may or must be taken.
func (m *machine) layTimes(n api.Node, next int) int {
	kid, must, first := n.Kids[0], n.Min, next
	if n.Max < 0 {
		again := m.add(state{kind: fork, other: next})
		first = m.lay(kid, again)
		m.states[again].next = first
		if must == 0 {
			return again
		}
		// The last one that must be taken is the one that is taken again: with
		// one more there would be more than the node's Size.
		must--
	}
	for range n.Max - n.Min {
		first = m.add(state{kind: fork, next: m.lay(kid, first), other: next})
	}
	for range must {
		first = m.lay(kid, first)
	}
	return first
}

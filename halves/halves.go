// Package halves stands beside the layers: it parts what is done into two that are done one behind the other, for swap and pick.
package halves

import (
	"patchwork/api"
	"patchwork/ops"
)

// Two holds steps of which each change is in one alone; the first is done ahead of the second.
type Two struct{ first, second []api.Op }

// Stay puts a Skip or Keep into both.
func (t *Two) Stay(o api.Op) {
	t.first, t.second = append(t.first, o), append(t.second, o)
}

// Ahead puts a change into the first: the second finds there what has come.
func (t *Two) Ahead(o api.Op) {
	t.first, t.second = append(t.first, o), found(t.second, o, api.Ins)
}

// Behind puts a change into the second: the first finds there what has yet to go.
func (t *Two) Behind(o api.Op) {
	t.first, t.second = found(t.first, o, api.Del), append(t.second, o)
}

// Norm answers both as ops.Norm writes them; nothing and false, if one of them is not ops.Right.
func (t *Two) Norm() ([]api.Op, []api.Op, bool) {
	if !ops.Right(t.first) || !ops.Right(t.second) {
		return nil, nil, false
	}
	return ops.Norm(t.first), ops.Norm(t.second), true
}

// found appends what the one finds of a change of the other one: a line that stays, if the change is of the kind whose line is there, else nothing.
func found(l []api.Op, change api.Op, there int) []api.Op {
	if change.Kind != there {
		return l
	}
	change.Kind = api.Keep
	return append(l, change)
}

package halves_test

import (
	"slices"
	"testing"

	"patchwork/api"
	"patchwork/halves"
)

func skip(n int) api.Op    { return api.Op{Kind: api.Skip, N: n} }
func keep(s string) api.Op { return api.Op{Kind: api.Keep, Text: s} }
func del(s string) api.Op  { return api.Op{Kind: api.Del, Text: s} }
func ins(s string) api.Op  { return api.Op{Kind: api.Ins, Text: s} }

func TestHalves(t *testing.T) {
	ahead, behind, stay := (*halves.Two).Ahead, (*halves.Two).Behind, (*halves.Two).Stay
	type put struct {
		in func(*halves.Two, api.Op)
		op api.Op
	}
	for i, x := range []struct {
		puts          []put
		first, second []api.Op
		ok            bool
	}{
		{nil, nil, nil, true},
		{[]put{{stay, skip(1)}, {stay, keep("k")}}, []api.Op{skip(1), keep("k")}, []api.Op{skip(1), keep("k")}, true},
		{[]put{{ahead, del("a")}}, []api.Op{del("a")}, nil, true},
		{[]put{{ahead, ins("a")}}, []api.Op{ins("a")}, []api.Op{keep("a")}, true},
		{[]put{{behind, del("a")}}, []api.Op{keep("a")}, []api.Op{del("a")}, true},
		{[]put{{behind, ins("a")}}, nil, []api.Op{ins("a")}, true},
		{[]put{{stay, skip(1)}, {behind, ins("a\n")}, {stay, skip(2)}}, []api.Op{skip(3)}, []api.Op{skip(1), ins("a\n"), skip(2)}, true},
		{[]put{{ahead, ins("a\n")}, {ahead, del("b\n")}}, []api.Op{del("b\n"), ins("a\n")}, []api.Op{keep("a\n")}, true},
		{[]put{{behind, del("a")}, {ahead, ins("b")}}, nil, nil, false},
		{[]put{{stay, skip(0)}}, nil, nil, false},
	} {
		var both halves.Two
		for _, p := range x.puts {
			p.in(&both, p.op)
		}
		first, second, ok := both.Norm()
		if ok != x.ok || !slices.Equal(first, x.first) || !slices.Equal(second, x.second) {
			t.Errorf("%d: %#v, %#v, %v; wanted %#v, %#v, %v", i, first, second, ok, x.first, x.second, x.ok)
		}
	}
}

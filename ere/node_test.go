package ere_test

import (
	"math"
	"math/big"
	"slices"
	"testing"

	"patchwork/api"
	"patchwork/ere"
)

// slowSize counts without a bound, and takes the bound last.
func slowSize(n api.Node) int {
	most := big.NewInt(1 << 30)
	if size := exactSize(n); size.Cmp(most) < 0 {
		return int(size.Int64())
	}
	return 1 << 30
}

func exactSize(n api.Node) *big.Int {
	kids := new(big.Int)
	for _, k := range n.Kids {
		kids.Add(kids, exactSize(k))
	}
	if n.Kind == api.NTimes {
		kids.Mul(kids, big.NewInt(int64(slices.Max([]int{n.Min, n.Max, 1}))))
	}
	return kids.Add(kids, big.NewInt(1))
}

// slowWithin tells how many are within one another in a node.
func slowWithin(n api.Node) int {
	most := 0
	for _, k := range n.Kids {
		most = max(most, 1+slowWithin(k))
	}
	return most
}

// slowKinds tells whether all nodes have what their kinds have.
func slowKinds(n api.Node) bool {
	ok := false
	for kind, low := range map[int]int{api.NEmpty: 0, api.NSet: 0, api.NCat: 2, api.NAlt: 2, api.NTimes: 1, api.NBegin: 0, api.NEnd: 0} {
		many := kind == api.NCat || kind == api.NAlt
		ok = ok || n.Kind == kind && (len(n.Kids) == low || many && len(n.Kids) > low)
	}
	if n.Kind != api.NSet {
		ok = ok && n.Set[0] == 0 && n.Set[1] == 0 && n.Set[2] == 0 && n.Set[3] == 0
	}
	if n.Kind == api.NTimes {
		ok = ok && n.Min >= 0 && n.Min <= 200 && (n.Max == -1 || n.Max >= n.Min && n.Max <= 200)
	} else {
		ok = ok && n.Min == 0 && n.Max == 0
	}
	for _, k := range n.Kids {
		ok = ok && slowKinds(k)
	}
	return ok
}

// check holds Right and Size against the slow ones, and tells what is Right.
func check(t *testing.T, promise string, n api.Node) bool {
	t.Helper()
	size := slowSize(n)
	right := slowKinds(n) && slowWithin(n) <= 200 && size <= 20000
	if got := ere.Size(n); got != size {
		t.Errorf("%s: Size(%v): %d; wanted %d", promise, n, got, size)
	}
	if got := ere.Right(n); got != right {
		t.Errorf("%s: Right(%v): %v", promise, n, got)
	}
	return right
}

// sized is a node with its Size, and whether it is Right.
type sized struct {
	n    api.Node
	size int
	ok   bool
}

// each holds Size and Right against what is listed.
func each(t *testing.T, l []sized) {
	t.Helper()
	for i, x := range l {
		if got := ere.Size(x.n); got != x.size {
			t.Errorf("P602: %d: Size: %d; wanted %d", i, got, x.size)
		}
		if got := ere.Right(x.n); got != x.ok {
			t.Errorf("P602: %d: Right: %v", i, got)
		}
	}
}

func TestRight(t *testing.T) {
	set := of("a").Set
	with := func(kind int, kids ...api.Node) api.Node { return api.Node{Kind: kind, Kids: kids} }
	for _, kind := range []int{api.NEmpty, api.NBegin, api.NEnd, api.NSet} {
		each(t, []sized{
			{leaf(kind), 1, true},
			{api.Node{Kind: kind, Kids: []api.Node{}}, 1, true},
			{api.Node{Kind: kind, Set: set}, 1, kind == api.NSet},
			{api.Node{Kind: kind, Set: [4]uint64{3: 1}}, 1, kind == api.NSet},
			{api.Node{Kind: kind, Set: [4]uint64{1, 2, 3, math.MaxUint64}}, 1, kind == api.NSet},
			{with(kind, a), 2, false},
			{with(kind, a, a), 3, false},
			{api.Node{Kind: kind, Min: 1}, 1, false},
			{api.Node{Kind: kind, Min: -1}, 1, false},
			{api.Node{Kind: kind, Max: 1}, 1, false},
			{api.Node{Kind: kind, Max: -1}, 1, false},
		})
	}
	for _, kind := range []int{api.NCat, api.NAlt} {
		two := []api.Node{a, a}
		each(t, []sized{
			{leaf(kind), 1, false},
			{with(kind, a), 2, false},
			{with(kind, a, a), 3, true},
			{with(kind, a, none, begin, end), 5, true},
			{api.Node{Kind: kind, Kids: two, Set: set}, 3, false},
			{api.Node{Kind: kind, Kids: two, Set: [4]uint64{2: 1}}, 3, false},
			{api.Node{Kind: kind, Kids: two, Min: 1}, 3, false},
			{api.Node{Kind: kind, Kids: two, Min: 5, Max: 5}, 3, false},
			{api.Node{Kind: kind, Kids: two, Max: -1}, 3, false},
			{api.Node{Kind: kind, Kids: two, Max: 1}, 3, false},
			{with(kind, a, api.Node{}), 3, false},
			{with(kind, api.Node{}, a), 3, false},
			{with(kind, a, a, leaf(8)), 4, false},
		})
	}
	for _, kind := range []int{math.MinInt, -5, -1, 0, 8, 9, 258, math.MaxInt} {
		each(t, []sized{{leaf(kind), 1, false}, {with(kind, a), 2, false}, {with(kind, a, a), 3, false}, {api.Node{Kind: kind, Kids: []api.Node{a}, Min: 7, Max: 7}, 2, false}})
	}
}

func TestRightTimes(t *testing.T) {
	set := of("a").Set
	each(t, []sized{
		{times(a, 0, -1), 2, true},
		{times(a, 1, -1), 2, true},
		{times(a, 0, 0), 2, true},
		{times(a, 0, 1), 2, true},
		{times(a, 3, 5), 6, true},
		{times(a, 5, 5), 6, true},
		{times(a, 200, -1), 201, true},
		{times(a, 200, 200), 201, true},
		{times(a, 0, 200), 201, true},
		{times(cat(a, a), 4, -1), 13, true},
		{times(times(a, 2, 3), 0, 5), 21, true},
		{times(a, -1, 3), 4, false},
		{times(a, -1, -1), 2, false},
		{times(a, math.MinInt, 3), 4, false},
		{times(a, 3, 2), 4, false},
		{times(a, 1, 0), 2, false},
		{times(a, 0, -2), 2, false},
		{times(a, 0, math.MinInt), 2, false},
		{times(a, 201, -1), 202, false},
		{times(a, 0, 201), 202, false},
		{times(a, 201, 201), 202, false},
		{api.Node{Kind: api.NTimes, Max: -1}, 1, false},
		{api.Node{Kind: api.NTimes, Min: math.MaxInt, Max: math.MaxInt}, 1, false},
		{api.Node{Kind: api.NTimes, Kids: []api.Node{a, a}, Max: -1}, 3, false},
		{api.Node{Kind: api.NTimes, Kids: []api.Node{a, a}, Min: 3, Max: 4}, 9, false},
		{api.Node{Kind: api.NTimes, Kids: []api.Node{a}, Max: -1, Set: set}, 2, false},
		{api.Node{Kind: api.NTimes, Kids: []api.Node{a}, Max: -1, Set: [4]uint64{3: 1 << 63}}, 2, false},
		{times(api.Node{}, 0, 1), 2, false},
	})
	for low := -3; low <= 204; low++ {
		for high := -3; high <= 204; high++ {
			check(t, "P602", times(a, low, high))
		}
	}
}

// What is wrong is wrong wherever it stands.
func TestWrongWithin(t *testing.T) {
	for _, wrong := range []api.Node{{}, leaf(8), cat(), alt(a), times(a, 2, 1), {Kind: api.NSet, Min: 1}, {Kind: api.NEnd, Kids: []api.Node{a}}} {
		for _, n := range []api.Node{
			cat(a, wrong), cat(wrong, a), alt(a, b, wrong), times(wrong, 0, 1), cat(cat(a, a), cat(a, alt(a, times(wrong, 0, -1)))),
		} {
			if check(t, "P602", n) {
				t.Errorf("P602: Right(%v)", n)
			}
		}
	}
}

// within puts a node so often within others.
func within(n api.Node, often int) api.Node {
	for i := range often {
		switch i % 3 {
		case 0:
			n = times(n, 0, 1)
		case 1:
			n = cat(a, n)
		case 2:
			n = alt(n, b)
		}
	}
	return n
}

func TestWithinOneAnother(t *testing.T) {
	for often := 195; often <= 205; often++ {
		for _, n := range []api.Node{within(a, often), within(none, often), cat(b, within(a, often-1)), times(within(cat(a, b), often-2), 0, 1)} {
			if got := check(t, "P602", n); got != (often <= 200) {
				t.Errorf("P602: Right of %d within one another: %v", often, got)
			}
		}
	}
	// Side by side they are not within one another.
	if n := cat(within(a, 199), within(a, 199)); !check(t, "P602", n) {
		t.Errorf("P602: two beside one another are not Right")
	}
}

func TestSizeBounds(t *testing.T) {
	// row is a node of so many in all.
	row := func(size int) api.Node { return cat(slices.Repeat([]api.Node{a}, size-1)...) }
	kinds := []sized{
		{row(20000), 20000, true},
		{row(20001), 20001, false},
		{times(row(1999), 10, -1), 19991, true},
		{times(row(2000), 10, 10), 20001, false},
		{times(times(a, 200, 200), 99, 99), 1 + 99*201, true},
		{times(times(a, 200, 200), 100, 100), 1 + 100*201, false},
		{times(a, 19999, 0), 20000, false},
		{times(a, 1<<30-2, 0), 1<<30 - 1, false},
		{times(a, 1<<30-1, 0), 1 << 30, false},
		{times(a, 1<<30, 0), 1 << 30, false},
		{times(a, 0, 1<<30-2), 1<<30 - 1, false},
		{times(a, 0, 1<<40), 1 << 30, false},
		{times(a, math.MaxInt, math.MinInt), 1 << 30, false},
		{times(a, math.MaxInt, math.MaxInt), 1 << 30, false},
		{cat(times(a, 1<<29, 0), times(a, 1<<29-4, 0)), 1<<30 - 1, false},
		{cat(times(a, 1<<29, 0), times(a, 1<<29-3, 0)), 1 << 30, false},
		{cat(times(a, 1<<29, 0), times(a, 1<<29, 0)), 1 << 30, false},
		{cat(times(a, math.MaxInt, 0), times(a, math.MaxInt, 0), times(a, math.MaxInt, 0)), 1 << 30, false},
		{times(times(a, 1<<15, 0), 1<<15, 0), 1 << 30, false},
		{times(times(a, 1<<15-2, 0), 1<<15-1, 0), (1<<15-1)*(1<<15-1) + 1, false},
		{times(times(a, 1<<32, 0), 1<<32, 0), 1 << 30, false},
		{times(times(times(a, math.MaxInt, 0), math.MaxInt, 0), 3, 0), 1 << 30, false},
		{times(times(a, math.MaxInt, 0), 2, 0), 1 << 30, false},
		{times(times(a, 1<<62, 0), 4, 0), 1 << 30, false},
		{times(times(a, 0, 1<<61), 200, 0), 1 << 30, false},
		{times(cat(a, times(a, math.MaxInt, 0), a), 2, 0), 1 << 30, false},
		{times(api.Node{Kind: api.NTimes, Min: math.MaxInt}, 3, 3), 4, false},
	}
	each(t, kinds)
	for _, x := range kinds {
		check(t, "P602", x.n)
	}
}

// Calls within one another could not go so deep, nor go through so many in time.
func TestGreatNodes(t *testing.T) {
	const many = 5000000
	deep := a
	for range many {
		deep = api.Node{Kind: api.NTimes, Kids: []api.Node{deep}, Max: 1}
	}
	each(t, []sized{{deep, many + 1, false}, {cat(deep, deep), 2*many + 3, false}, {cat(make([]api.Node, 1000000)...), 1000001, false}})
	pair := a
	for range 60 {
		pair = cat(pair, pair)
	}
	if ere.Right(pair) {
		t.Errorf("P602: Right of 2^60 nodes")
	}
	if got := ere.Size(times(pair, 1<<20, 0)); got != 1<<30 {
		t.Errorf("P602: Size of 2^60 nodes: %d", got)
	}
}

func TestListsWithinThemselves(t *testing.T) {
	for size := 1; size <= 3; size++ {
		for _, n := range []api.Node{times(a, 2, 2), {Kind: api.NCat}, {Kind: api.NEmpty}, {}} {
			kids := slices.Repeat([]api.Node{n}, size)
			for i := range kids {
				kids[i].Kids = kids
			}
			if ere.Right(kids[0]) {
				t.Errorf("P602: Right of a list of %d within itself, kind %d", size, n.Kind)
			}
			if n.Kind != api.NTimes {
				continue
			}
			if got := ere.Size(kids[0]); got != 1<<30 {
				t.Errorf("P602: Size of a list of %d within itself: %d", size, got)
			}
		}
	}
}

func TestHas(t *testing.T) {
	for in := range 256 {
		n := of(one(in))
		others := n
		for i := range others.Set {
			others.Set[i] = ^others.Set[i]
		}
		for at := range 256 {
			if got := ere.Has(n, byte(at)); got != (at == in) {
				t.Errorf("P602: Has(%v, %d): %v", n, at, got)
			}
			if got := ere.Has(others, byte(at)); got != (at != in) {
				t.Errorf("P602: Has(%v, %d): %v", others, at, got)
			}
		}
	}
	all := [4]uint64{math.MaxUint64, math.MaxUint64, math.MaxUint64, math.MaxUint64}
	for at := range 256 {
		for _, kind := range []int{math.MinInt, -2, -1, 0, api.NEmpty, api.NSet, api.NCat, api.NAlt, api.NTimes, api.NBegin, api.NEnd, 8, math.MaxInt} {
			n := api.Node{Kind: kind, Set: all, Kids: []api.Node{of(one(at))}, Min: 1, Max: 2}
			if got := ere.Has(n, byte(at)); got != (kind == api.NSet) {
				t.Errorf("P602: Has(%v, %d): %v", n, at, got)
			}
		}
	}
	for word := range 4 {
		n := api.Node{Kind: api.NSet}
		n.Set[word] = 1<<63 | 1<<7 | 1
		for at := range 256 {
			want := at/64 == word && (at%64 == 63 || at%64 == 7 || at%64 == 0)
			if got := ere.Has(n, byte(at)); got != want {
				t.Errorf("P602: Has of word %d, %d: %v", word, at, got)
			}
		}
	}
}

// Nodes of all kinds, with Kids of all kinds, whatever their numbers are.
func TestAllSmallNodes(t *testing.T) {
	var alone, small []api.Node
	for kind := range 9 {
		for _, numbers := range [][2]int{{0, 0}, {0, -1}, {2, 3}, {1, 0}, {0, 1 << 20}} {
			for _, set := range [][4]uint64{{}, {1: 2}} {
				alone = append(alone, api.Node{Kind: kind, Set: set, Min: numbers[0], Max: numbers[1]})
			}
		}
	}
	right := 0
	for _, n := range alone {
		for _, k := range append(alone, times(a, 1, 2), cat(a, b)) {
			for often := range 4 {
				x := n
				x.Kids = slices.Repeat([]api.Node{k}, often)
				small = append(small, x)
			}
		}
	}
	for _, x := range small {
		for _, y := range []api.Node{x, cat(a, x), times(x, 0, 1<<14)} {
			if check(t, "P602", y) {
				right++
			}
		}
	}
	if right < 100 {
		t.Errorf("P602: %d are Right", right)
	}
}

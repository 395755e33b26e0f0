package ere

import (
	"patchwork/api"
	"patchwork/sets"
)

// Bounds of nodes.
const (
	maxSize    = 20000   // the Size of the largest one that is Right
	maxWithin  = 200     // how many may be within one another
	maxCounted = 1 << 30 // the greatest Size that is told
	// A list within a list takes at least 80 bytes of the 2^31 that may be
	// given: more lists than that within one another have no end.
	maxLists = (1 << 31) / 80
)

// Has tells whether a byte is one of an NSet's.
func Has(n api.Node, c byte) bool {
	return n.Kind == api.NSet && sets.Set(n.Set).Has(c)
}

// Right tells whether a node is one that can be looked for.
func Right(n api.Node) bool {
	// Only what is known to be small is gone through node by node.
	return sizeUpTo(n, maxSize+1) <= maxSize && rightWithin(n, maxWithin)
}

// rightWithin tells whether a node and all those within it have what their
// kinds have, with at most so many within one another.
func rightWithin(n api.Node, most int) bool {
	if !rightAlone(n) || most == 0 && len(n.Kids) > 0 {
		return false
	}
	for _, k := range n.Kids {
		if !rightWithin(k, most-1) {
			return false
		}
	}
	return true
}

// rightAlone tells whether a node has what its kind has, whatever its Kids are.
func rightAlone(n api.Node) bool {
	noSet, noTimes := n.Set == [4]uint64{}, n.Min == 0 && n.Max == 0
	switch n.Kind {
	case api.NEmpty, api.NBegin, api.NEnd:
		return len(n.Kids) == 0 && noSet && noTimes
	case api.NSet:
		return len(n.Kids) == 0 && noTimes
	case api.NCat, api.NAlt:
		return len(n.Kids) >= 2 && noSet && noTimes
	case api.NTimes:
		return len(n.Kids) == 1 && noSet && rightTimes(n.Min, n.Max)
	}
	return false
}

// rightTimes tells whether from one to another number of times can be.
func rightTimes(low, high int) bool {
	if low < 0 || low > api.MaxTimes {
		return false
	}
	return high == -1 || low <= high && high <= api.MaxTimes
}

// Size answers how many nodes a node is, laid out.
func Size(n api.Node) int {
	return sizeUpTo(n, maxCounted)
}

// list of nodes that are yet to be counted, each of them so many times.
type list struct {
	nodes []api.Node
	times int
}

// sizeUpTo answers a node's Size, or most, if it is above that.
func sizeUpTo(n api.Node, most int) int {
	size := 0
	// A call for each node would not do: they may be deeper within one another
	// than calls can be, and one list may stand in many places, even in itself.
	left := []list{{[]api.Node{n}, 1}}
	for len(left) > 0 && len(left) <= maxLists {
		last := len(left) - 1
		now := left[last]
		size += now.times
		if size >= most {
			return most
		}
		left = left[:last]
		if len(now.nodes) > 1 {
			left = append(left, list{now.nodes[1:], now.times})
		}
		// Neither number is above most here: they don't go round.
		if kids := now.nodes[0].Kids; len(kids) > 0 {
			left = append(left, list{kids, now.times * timesOf(now.nodes[0], most)})
		}
	}
	if len(left) > 0 {
		return most
	}
	return size
}

// timesOf answers how often a node's Kids are laid out, or most, if it is above that.
func timesOf(n api.Node, most int) int {
	if n.Kind != api.NTimes {
		return 1
	}
	return min(max(n.Min, n.Max, 1), most)
}

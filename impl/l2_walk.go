package impl

import "slices"

// WalkMax is how many arcs a walk has at most.
const WalkMax = 20

// walk is a list of arcs with the net that they belong to.
// All methods but ok require that ok holds.
type walk struct {
	net  Net
	arcs []int
}

// WalkOk says whether a walk is ok.
func WalkOk(n Net, w []int) bool {
	return walk{n, w}.ok()
}

// WalkCost is what a walk costs.
func WalkCost(n Net, w []int) int {
	if !WalkOk(n, w) {
		return -1
	}
	return walk{n, w}.cost()
}

// WalkNodes is a walk's nodes.
func WalkNodes(n Net, w []int) []int {
	if !WalkOk(n, w) {
		return nil
	}
	return walk{n, w}.nodes()
}

// WalkJoin is two walks, one behind the other.
func WalkJoin(n Net, a []int, b []int) ([]int, bool) {
	both := slices.Concat(a, b)
	if !WalkOk(n, both) {
		return nil, false
	}
	return both, true
}

// WalkPlain is a walk without its rings.
func WalkPlain(n Net, w []int) []int {
	if !WalkOk(n, w) {
		return nil
	}
	return walk{n, w}.plain()
}

// ok says whether the net is ok, and the arcs exist and follow each other.
func (w walk) ok() bool {
	if !NetOk(w.net) || len(w.arcs) > WalkMax {
		return false
	}
	for i, arc := range w.arcs {
		if !within(arc, len(w.net.Arcs)-1) {
			return false
		}
		if i > 0 && w.net.Arcs[w.arcs[i-1]].To != w.net.Arcs[arc].From {
			return false
		}
	}
	return true
}

// cost is the sum of the costs of the arcs.
func (w walk) cost() int {
	sum := 0
	for _, arc := range w.arcs {
		sum += w.net.Arcs[arc].Cost
	}
	return sum
}

// nodes is where the walk begins, then where each arc ends. An empty walk begins nowhere.
func (w walk) nodes() []int {
	if len(w.arcs) == 0 {
		return nil
	}
	nodes := []int{w.net.Arcs[w.arcs[0]].From}
	for _, arc := range w.arcs {
		nodes = append(nodes, w.net.Arcs[arc].To)
	}
	return nodes
}

// plain is the arcs that remain if the walk goes on, at each node, behind its last visit of it.
func (w walk) plain() []int {
	if len(w.arcs) == 0 {
		return nil
	}
	nodes := w.nodes()
	var kept []int
	for i := lastIndex(nodes, nodes[0]); i < len(w.arcs); i = lastIndex(nodes, nodes[i+1]) {
		kept = append(kept, w.arcs[i])
	}
	return kept
}

// lastIndex is where a number occurs last in a list, or -1.
func lastIndex(list []int, number int) int {
	for i := len(list) - 1; i >= 0; i-- {
		if list[i] == number {
			return i
		}
	}
	return -1
}

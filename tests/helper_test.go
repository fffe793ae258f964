package tests

import (
	"math"
	"math/rand/v2"
	"slices"
	"testing"

	"loop.example/waymark/impl"
)

// example is the graph of the document's chapter on sessions.
func example() impl.Net {
	return impl.Net{Nodes: 4, Arcs: []impl.Arc{
		{From: 0, To: 1, Cost: 5, Toll: 0, Load: 9},
		{From: 1, To: 2, Cost: 4, Toll: 2, Load: 5},
		{From: 0, To: 2, Cost: 12, Toll: 0, Load: 3},
		{From: 2, To: 3, Cost: 1, Toll: 0, Load: 9},
		{From: 3, To: 0, Cost: 2, Toll: 0, Load: 9},
		{From: 1, To: 3, Cost: 9, Toll: 1, Load: 9},
	}}
}

// costs makes a graph of arcs that are a beginning, an end and a cost.
func costs(nodes int, arcs ...[3]int) impl.Net {
	n := impl.Net{Nodes: nodes}
	for _, a := range arcs {
		n.Arcs = append(n.Arcs, impl.Arc{From: a[0], To: a[1], Cost: a[2]})
	}
	return n
}

// freeRing has arcs that cost nothing in a ring of three nodes, with a way in and a way out.
func freeRing() impl.Net {
	return costs(5, [3]int{3, 0, 2}, [3]int{0, 1, 0}, [3]int{1, 2, 0}, [3]int{2, 0, 0}, [3]int{2, 4, 1}, [3]int{0, 4, 1})
}

// twins has several arcs between the same nodes, the cheapest one last and twice.
func twins() impl.Net {
	return costs(3, [3]int{0, 1, 7}, [3]int{0, 1, 3}, [3]int{0, 1, 3}, [3]int{1, 2, 4}, [3]int{1, 2, 4}, [3]int{2, 1, 0}, [3]int{1, 0, 1})
}

// largest is at every limit of a graph at once.
func largest() impl.Net {
	n := impl.Net{Nodes: impl.NodesMax}
	for i := range impl.ArcsMax {
		n.Arcs = append(n.Arcs, impl.Arc{From: i % impl.NodesMax, To: (i + 1) % impl.NodesMax, Cost: impl.CostMax, Toll: impl.CostMax, Load: impl.LoadMax})
	}
	return n
}

// longest has one way through all nodes, with the largest cost.
func longest() impl.Net {
	n := impl.Net{Nodes: impl.NodesMax}
	for i := range impl.NodesMax - 1 {
		n.Arcs = append(n.Arcs, impl.Arc{From: i, To: i + 1, Cost: impl.CostMax})
	}
	return n
}

// scattered is an arbitrary valid graph with costs up to most; the same for the same source.
func scattered(r *rand.Rand, most int) impl.Net {
	n := impl.Net{Nodes: 1 + r.IntN(impl.NodesMax)}
	if n.Nodes == 1 {
		return n
	}
	for range r.IntN(impl.ArcsMax + 1) {
		from := r.IntN(n.Nodes)
		to := (from + 1 + r.IntN(n.Nodes-1)) % n.Nodes
		n.Arcs = append(n.Arcs, impl.Arc{From: from, To: to, Cost: r.IntN(most + 1), Toll: r.IntN(impl.CostMax + 1), Load: r.IntN(impl.LoadMax + 1)})
	}
	return n
}

// source is a source of the same numbers in every run.
func source() *rand.Rand {
	return rand.New(rand.NewPCG(1, 2))
}

// validNets are the graphs on which every promise is tested.
func validNets() []impl.Net {
	nets := []impl.Net{
		example(), freeRing(), twins(), largest(), longest(),
		{Nodes: 1}, {Nodes: impl.NodesMax}, {Nodes: 2, Arcs: []impl.Arc{}},
	}
	r := source()
	for _, most := range []int{0, 1, 3, impl.CostMax} {
		for range 100 {
			nets = append(nets, scattered(r, most))
		}
	}
	return nets
}

// invalidNets are graphs that break one rule each.
func invalidNets() map[string]impl.Net {
	nets := map[string]impl.Net{
		"zero value":           {},
		"negative nodes":       {Nodes: -1},
		"smallest nodes":       {Nodes: math.MinInt},
		"one node too many":    {Nodes: impl.NodesMax + 1},
		"largest nodes":        {Nodes: math.MaxInt},
		"no node but arcs":     {Arcs: []impl.Arc{{From: 0, To: 1}}},
		"an arc in one node":   {Nodes: 1, Arcs: []impl.Arc{{From: 0, To: 0}}},
		"an arc from one node": {Nodes: 1, Arcs: []impl.Arc{{From: 0, To: 1}}},
	}
	many := largest()
	many.Arcs = append(many.Arcs, impl.Arc{From: 0, To: 1})
	nets["one arc too many"] = many
	arcs := map[string]impl.Arc{
		"From negative":         {From: -1, To: 1},
		"From too large":        {From: 4, To: 1},
		"From largest":          {From: math.MaxInt, To: 1},
		"To negative":           {From: 0, To: -1},
		"To too large":          {From: 0, To: 4},
		"To smallest":           {From: 0, To: math.MinInt},
		"To equal to From":      {From: 2, To: 2},
		"Cost negative":         {From: 0, To: 1, Cost: -1},
		"Cost one too large":    {From: 0, To: 1, Cost: impl.CostMax + 1},
		"Toll negative":         {From: 0, To: 1, Toll: -1},
		"Toll one too large":    {From: 0, To: 1, Toll: impl.CostMax + 1},
		"Load negative":         {From: 0, To: 1, Load: -1},
		"Load one too large":    {From: 0, To: 1, Load: impl.LoadMax + 1},
		"everything very large": {From: math.MaxInt, To: math.MaxInt - 1, Cost: math.MaxInt, Toll: math.MaxInt, Load: math.MaxInt},
	}
	for name, a := range arcs {
		first, last := example(), example()
		first.Arcs[0] = a
		last.Arcs[5] = a
		nets[name+", first arc"] = first
		nets[name+", last arc"] = last
	}
	return nets
}

// noNodes are numbers that are not nodes of n.
func noNodes(n impl.Net) []int {
	return []int{-1, n.Nodes, n.Nodes + 1, math.MinInt, math.MaxInt}
}

// wander is a walk from a node with so many arcs, or fewer if there is no way on.
func wander(r *rand.Rand, n impl.Net, from int, arcs int) []int {
	var w []int
	for len(w) < arcs {
		var out []int
		for i, a := range n.Arcs {
			if a.From == from {
				out = append(out, i)
			}
		}
		if len(out) == 0 {
			return w
		}
		next := out[r.IntN(len(out))]
		w = append(w, next)
		from = n.Arcs[next].To
	}
	return w
}

// someWalks are walks in n: the empty one, and some from each node, up to the longest ones.
func someWalks(n impl.Net) [][]int {
	walks := [][]int{nil}
	r := source()
	for from := range n.Nodes {
		for _, arcs := range []int{1, 2, 3, 7, 12, impl.WalkMax - 1, impl.WalkMax} {
			walks = append(walks, wander(r, n, from, arcs))
		}
	}
	return walks
}

// noWalks are lists of arcs that are not walks in n, which has arcs.
func noWalks(n impl.Net) [][]int {
	lists := [][]int{{-1}, {len(n.Arcs)}, {math.MinInt}, {math.MaxInt}, {0, -1}, {0, len(n.Arcs)}, {-1, 0}, slices.Repeat([]int{-1}, impl.WalkMax+1)}
	for i, a := range n.Arcs {
		for k, b := range n.Arcs {
			if a.To != b.From {
				lists = append(lists, []int{i, k})
			}
		}
	}
	return lists
}

// sumOf is the cost of arcs that all exist.
func sumOf(n impl.Net, w []int) int {
	sum := 0
	for _, arc := range w {
		sum += n.Arcs[arc].Cost
	}
	return sum
}

func sameNet(a impl.Net, b impl.Net) bool {
	return a.Nodes == b.Nodes && slices.Equal(a.Arcs, b.Arcs)
}

// eachNet runs a test for every valid graph.
func eachNet(t *testing.T, test func(t *testing.T, n impl.Net)) {
	t.Helper()
	for _, n := range validNets() {
		test(t, n)
		if t.Failed() {
			t.Fatalf("in the graph %v", n)
		}
	}
}

// eachInvalidNet runs a test for every invalid graph.
func eachInvalidNet(t *testing.T, test func(t *testing.T, n impl.Net)) {
	t.Helper()
	for name, n := range invalidNets() {
		t.Run(name, func(t *testing.T) { test(t, n) })
	}
}

// eachWalk runs a test for walks of every valid graph.
func eachWalk(t *testing.T, test func(t *testing.T, n impl.Net, w []int)) {
	t.Helper()
	eachNet(t, func(t *testing.T, n impl.Net) {
		for _, w := range someWalks(n) {
			test(t, n, w)
		}
	})
}

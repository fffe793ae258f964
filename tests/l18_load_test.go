package tests

import (
	"math"
	"slices"
	"testing"

	"loop.example/waymark/impl"
)

// noLoads are numbers that are no loads.
func noLoads() []int {
	return []int{-1, impl.LoadMax + 1, impl.CostMax, math.MinInt, math.MaxInt}
}

// loads makes a graph of arcs that are a beginning, an end and a load, and cost 1 each.
func loads(nodes int, arcs ...[3]int) impl.Net {
	n := impl.Net{Nodes: nodes}
	for _, a := range arcs {
		n.Arcs = append(n.Arcs, impl.Arc{From: a[0], To: a[1], Cost: 1, Load: a[2]})
	}
	return n
}

// strongByHand is n without its weaker arcs, which are taken out from the last one on.
func strongByHand(n impl.Net, load int) impl.Net {
	arcs := slices.Clone(n.Arcs)
	for i := len(arcs) - 1; i >= 0; i-- {
		if arcs[i].Load < load {
			arcs = slices.Delete(arcs, i, i+1)
		}
	}
	return impl.Net{Nodes: n.Nodes, Arcs: arcs}
}

// largestLoads are the largest loads from each node to each, found by trying all of them.
func largestLoads(n impl.Net) [][]int {
	table := square(n.Nodes, -1)
	for load := range impl.LoadMax + 1 {
		for from, row := range connected(strongByHand(n, load)) {
			for to, reaches := range row {
				if reaches {
					table[from][to] = load
				}
			}
		}
	}
	return table
}

// eachLoad runs a test for all loads in every valid graph.
func eachLoad(t *testing.T, test func(t *testing.T, n impl.Net, load int)) {
	t.Helper()
	eachNet(t, func(t *testing.T, n impl.Net) {
		for load := range impl.LoadMax + 1 {
			test(t, n, load)
			if t.Failed() {
				t.Error("with the load", load)
				return
			}
		}
	})
}

// checkLoadWalk expects a best walk for a load.
func checkLoadWalk(t *testing.T, n impl.Net, from int, to int, load int, want ...int) {
	t.Helper()
	if got, ok := impl.LoadWalk(n, from, to, load); !ok || !slices.Equal(got, want) {
		t.Errorf("the walk from %d to %d for %d is %v %v, not %v", from, to, load, got, ok, want)
	}
}

// checkNoLoadWalk expects that there is no walk for a load.
func checkNoLoadWalk(t *testing.T, n impl.Net, from int, to int, load int) {
	t.Helper()
	if got, ok := impl.LoadWalk(n, from, to, load); ok || len(got) != 0 {
		t.Errorf("the walk from %d to %d for %d is %v %v", from, to, load, got, ok)
	}
}

func TestLoadExamples(t *testing.T) {
	n := example()
	for load, arcs := range []int{6, 6, 6, 6, 5, 5, 4, 4, 4, 4} {
		if got := impl.LoadNet(n, load); len(got.Arcs) != arcs || got.Nodes != 4 {
			t.Error("for the load", load, "the graph is", got)
		}
	}
	checkInts(t, "the loads from 0", impl.LoadAll(n, 0), 9, 9, 5, 9)
	checkInts(t, "the loads from 2", impl.LoadAll(n, 2), 9, 9, 9, 9)
	checkLoadWalk(t, n, 0, 3, 5, 0, 1, 3)
	checkLoadWalk(t, n, 0, 3, 6, 0, 5)
	checkLoadWalk(t, n, 0, 2, 5, 0, 1)
	checkNoLoadWalk(t, n, 0, 2, 6)
	// The arcs behind those that are left out keep their numbers.
	checkLoadWalk(t, n, 2, 1, 9, 3, 4, 0)
}

func TestLargestLoads(t *testing.T) {
	// The second way allows more, and is found last.
	n := loads(5, [3]int{2, 3, 7}, [3]int{1, 2, 3}, [3]int{0, 1, 9}, [3]int{4, 2, 6}, [3]int{0, 4, 8})
	checkInts(t, "the loads from 0", impl.LoadAll(n, 0), 9, 9, 6, 6, 8)
	checkInts(t, "the loads from 1", impl.LoadAll(n, 1), -1, 9, 3, 3, -1)
	checkInts(t, "the loads from 3", impl.LoadAll(n, 3), -1, -1, -1, 9, -1)
	// The load 0 is enough to reach a node, but not that a way is missing.
	zero := loads(3, [3]int{0, 1, 0})
	checkInts(t, "the loads from 0", impl.LoadAll(zero, 0), 9, 0, -1)
	checkLoadWalk(t, zero, 0, 1, 0, 0)
	checkNoLoadWalk(t, zero, 0, 1, 1)
	checkNoLoadWalk(t, zero, 0, 2, 0)
	// The stronger one of two arcs, and a ring.
	twice := loads(3, [3]int{0, 1, 4}, [3]int{0, 1, 6}, [3]int{1, 0, 9}, [3]int{1, 2, 5}, [3]int{2, 1, 9})
	checkInts(t, "the loads from 0", impl.LoadAll(twice, 0), 9, 6, 5)
	checkLoadWalk(t, twice, 0, 1, 4, 0)
	checkLoadWalk(t, twice, 0, 1, 5, 1)
	checkLoadWalk(t, twice, 0, 2, 5, 1, 3)
}

func TestLoadFromANodeToItself(t *testing.T) {
	for _, n := range []impl.Net{example(), {Nodes: 1}, {Nodes: impl.NodesMax}, longest(), freeRing()} {
		for node := range n.Nodes {
			if got := impl.LoadAll(n, node); len(got) != n.Nodes || got[node] != impl.LoadMax {
				t.Error("from", node, "the loads are", got)
			}
			for load := range impl.LoadMax + 1 {
				checkLoadWalk(t, n, node, node, load)
			}
		}
	}
}

func TestLoadsAtTheLimits(t *testing.T) {
	n := largest()
	for load := range impl.LoadMax + 1 {
		if got := impl.LoadNet(n, load); !sameNet(got, n) {
			t.Error("for the load", load, "the graph is", got)
		}
	}
	checkInts(t, "the loads", impl.LoadAll(n, 3), slices.Repeat([]int{impl.LoadMax}, impl.NodesMax)...)
	checkLoadWalk(t, n, 0, 7, impl.LoadMax, 0, 1, 2, 3, 4, 5, 6)
	for _, load := range noLoads() {
		for _, n := range []impl.Net{n, example(), {Nodes: 1}} {
			if got := impl.LoadNet(n, load); !sameNet(got, impl.Net{}) {
				t.Error("for the load", load, "the graph is", got)
			}
			checkNoLoadWalk(t, n, 0, 0, load)
			checkNoLoadWalk(t, n, 0, n.Nodes-1, load)
		}
	}
	// Only the last arc, the last node, and the smallest load.
	weak := longest()
	weak.Arcs[6].Load = impl.LoadMax
	if got := impl.LoadNet(weak, 1); !sameNet(got, impl.Net{Nodes: impl.NodesMax, Arcs: weak.Arcs[6:]}) {
		t.Error("for the load 1 the graph is", got)
	}
	checkInts(t, "the loads", impl.LoadAll(weak, 6), -1, -1, -1, -1, -1, -1, 9, 9)
	checkInts(t, "the loads", impl.LoadAll(weak, 5), -1, -1, -1, -1, -1, 9, 0, 0)
	checkLoadWalk(t, weak, 6, 7, impl.LoadMax, 6)
}

func TestLoadWithoutANode(t *testing.T) {
	for _, n := range []impl.Net{example(), {Nodes: 1}, largest()} {
		for _, node := range noNodes(n) {
			checkInts(t, "without a node, the loads", impl.LoadAll(n, node))
			for _, load := range []int{0, impl.LoadMax, -1} {
				checkNoLoadWalk(t, n, node, 0, load)
				checkNoLoadWalk(t, n, 0, node, load)
				checkNoLoadWalk(t, n, node, node, load)
			}
		}
	}
}

func TestLoadsInAnInvalidGraph(t *testing.T) {
	eachInvalidNet(t, func(t *testing.T, n impl.Net) {
		for load := range impl.LoadMax + 1 {
			if got := impl.LoadNet(n, load); !sameNet(got, impl.Net{}) {
				t.Error("for the load", load, "the graph is", got)
			}
			checkNoLoadWalk(t, n, 0, 1, load)
			checkNoLoadWalk(t, n, 0, 0, load)
		}
		checkInts(t, "the loads", impl.LoadAll(n, 0))
		checkInts(t, "the loads", impl.LoadAll(n, 1))
	})
}

// P77
func TestHeavierLoadsHaveFewerArcs(t *testing.T) {
	eachLoad(t, func(t *testing.T, n impl.Net, load int) {
		got, want := impl.LoadNet(n, load), strongByHand(n, load)
		if !sameNet(got, want) || !sameNet(impl.LoadNet(got, load), want) {
			t.Error("the graph is", got, "not", want)
		}
		if load > 0 && len(got.Arcs) > len(impl.LoadNet(n, load-1).Arcs) {
			t.Error("the graph has more arcs than that for less:", got)
		}
	})
}

// P78
func TestLargestLoadIsLimitedByTheWeakestArc(t *testing.T) {
	eachNet(t, func(t *testing.T, n impl.Net) {
		for from, want := range largestLoads(n) {
			got := impl.LoadAll(n, from)
			checkInts(t, "the loads", got, want...)
			if t.Failed() {
				t.Fatal("from", from)
			}
			for _, a := range n.Arcs {
				if got[a.To] < min(a.Load, got[a.From]) {
					t.Error("from", from, "the loads are", got, "which is too little behind", a)
				}
			}
			for to, most := range got {
				for load := range impl.LoadMax + 1 {
					if _, ok := impl.LoadWalk(n, from, to, load); ok != (load <= most) {
						t.Error("from", from, "to", to, "a walk for", load, "is found:", ok, "but the largest load is", most)
					}
				}
			}
		}
	})
}

// P79
func TestWalkForALoadUsesSufficientArcs(t *testing.T) {
	longer := 0
	eachEnds(t, func(t *testing.T, n impl.Net, from int, to int) {
		free := impl.NearAll(n, from)[to]
		all := simpleWalks(n, from, to)
		for load := range impl.LoadMax + 1 {
			// The best walk is the first simple one all of whose arcs are sufficient.
			fits := slices.IndexFunc(all, func(w []int) bool {
				return !slices.ContainsFunc(w, func(arc int) bool { return n.Arcs[arc].Load < load })
			})
			if fits < 0 {
				checkNoLoadWalk(t, n, from, to, load)
				continue
			}
			checkLoadWalk(t, n, from, to, load, all[fits]...)
			w, _ := impl.LoadWalk(n, from, to, load)
			cost := impl.WalkCost(n, w)
			if strong := impl.NearAll(impl.LoadNet(n, load), from)[to]; cost != strong || cost < free {
				t.Error("the walk for", load, "costs", cost, "and the distance is", strong, "or, without a load,", free)
			}
			if cost > free {
				longer++
			}
		}
	})
	if longer < 1000 {
		t.Error("only", longer, "walks cost more for a load")
	}
}

// P109
func TestLoadsRestrictReachability(t *testing.T) {
	eachLoad(t, func(t *testing.T, n impl.Net, load int) {
		if load == 0 {
			return
		}
		more, less := impl.LoadNet(n, load), impl.LoadNet(n, load-1)
		for from := range n.Nodes {
			for _, most := range []int{0, 5, impl.CostMax, impl.Far} {
				wide := impl.ReachIn(less, from, most)
				for _, node := range impl.ReachIn(more, from, most) {
					if !slices.Contains(wide, node) {
						t.Error("for", most, "only the larger load comes from", from, "to", node)
					}
				}
			}
		}
	})
}

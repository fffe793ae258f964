package tests

import (
	"slices"
	"testing"

	"loop.example/waymark/impl"
)

// way is a cost and a list of arcs; without a walk, its cost is Far.
type way struct {
	cost int
	arcs []int
}

// waysWithArcs returns, for each node, the cheapest way to `to` with exactly so many arcs, of several the smallest list.
// It tries all walks, with cycles too, one number of arcs after the other.
func waysWithArcs(n impl.Net, to int, arcs int) []way {
	ways := slices.Repeat([]way{{cost: impl.Far}}, n.Nodes)
	ways[to].cost = 0
	for range arcs {
		next := slices.Repeat([]way{{cost: impl.Far}}, n.Nodes)
		for i, a := range n.Arcs {
			rest := ways[a.To]
			if rest.cost != impl.Far && a.Cost+rest.cost < next[a.From].cost {
				next[a.From] = way{a.Cost + rest.cost, slices.Concat([]int{i}, rest.arcs)}
			}
		}
		ways = next
	}
	return ways
}

// bestWays returns, for each node, the best way to `to`, found by trying all numbers of arcs.
func bestWays(n impl.Net, to int) []way {
	best := waysWithArcs(n, to, 0)
	for arcs := 1; arcs <= impl.NodesMax+2; arcs++ {
		for node, w := range waysWithArcs(n, to, arcs) {
			if w.cost < best[node].cost {
				best[node] = w
			}
		}
	}
	return best
}

// allNear returns NearAll from every node.
func allNear(n impl.Net) [][]int {
	var rows [][]int
	for from := range n.Nodes {
		rows = append(rows, impl.NearAll(n, from))
	}
	return rows
}

func TestNearExamples(t *testing.T) {
	n := example()
	for from, want := range [][]int{{0, 5, 9, 10}, {7, 0, 4, 5}, {3, 8, 0, 1}, {2, 7, 11, 0}} {
		if got := impl.NearAll(n, from); !slices.Equal(got, want) {
			t.Error("from", from, "distances are", got)
		}
	}
	if got := impl.NearTo(n, 3); !slices.Equal(got, []int{10, 5, 1, 0}) {
		t.Error("distances to 3 are", got)
	}
	if got := impl.NearTree(n, 3); !slices.Equal(got, []int{0, 1, 3, -1}) {
		t.Error("first arcs to 3 are", got)
	}
	if got, ok := impl.NearWalk(n, 0, 3); !ok || !slices.Equal(got, []int{0, 1, 3}) {
		t.Error("the best walk from 0 to 3 is", got, ok)
	}
}

// checkWalk expects a best walk.
func checkWalk(t *testing.T, n impl.Net, from int, to int, want ...int) {
	t.Helper()
	if got, ok := impl.NearWalk(n, from, to); !ok || !slices.Equal(got, want) {
		t.Errorf("the best walk from %d to %d is %v %v, not %v", from, to, got, ok, want)
	}
}

func TestBestWalkTakesTheFirstOfCheapestTwins(t *testing.T) {
	checkWalk(t, twins(), 0, 1, 1)
	checkWalk(t, twins(), 0, 2, 1, 3)
	checkWalk(t, twins(), 2, 0, 5, 6)
}

func TestBestWalkAroundFreeRings(t *testing.T) {
	n := freeRing()
	checkWalk(t, n, 0, 0)
	checkWalk(t, n, 0, 2, 1, 2)
	checkWalk(t, n, 2, 1, 3, 1)
	checkWalk(t, n, 3, 4, 0, 5)
	checkWalk(t, n, 1, 4, 2, 4)
	if got := impl.NearAll(n, 1); !slices.Equal(got, []int{0, 0, 0, impl.Far, 1}) {
		t.Error("distances from 1 are", got)
	}
	if got := impl.NearTree(n, 4); !slices.Equal(got, []int{5, 2, 4, 0, -1}) {
		t.Error("first arcs to 4 are", got)
	}
}

func TestBestWalkHasFewestArcsThenSmallestList(t *testing.T) {
	// Arc 0 begins the smallest list, but only one arc is needed.
	fewer := costs(3, [3]int{0, 1, 0}, [3]int{1, 2, 5}, [3]int{0, 2, 5})
	checkWalk(t, fewer, 0, 2, 2)
	// Cost comes before the number of arcs.
	cheaper := costs(3, [3]int{0, 2, 6}, [3]int{0, 1, 3}, [3]int{1, 2, 2})
	checkWalk(t, cheaper, 0, 2, 1, 2)
	// The list is decided by its first arc, not by its last one.
	smallest := costs(4, [3]int{2, 3, 1}, [3]int{0, 1, 1}, [3]int{0, 2, 1}, [3]int{1, 3, 1})
	checkWalk(t, smallest, 0, 3, 1, 3)
	// A cheaper first arc does not decide it either.
	first := costs(4, [3]int{0, 1, 2}, [3]int{0, 2, 1}, [3]int{2, 3, 2}, [3]int{1, 3, 1})
	checkWalk(t, first, 0, 3, 0, 3)
}

func TestNearAtTheLimits(t *testing.T) {
	last := impl.NodesMax - 1
	if got := impl.NearAll(longest(), 0)[last]; got != last*impl.CostMax {
		t.Error("the longest way costs", got)
	}
	checkWalk(t, longest(), 0, last, 0, 1, 2, 3, 4, 5, 6)
	if got := impl.NearAll(longest(), last)[0]; got != impl.Far {
		t.Error("the distance without a way is", got)
	}
	checkWalk(t, largest(), 1, 0, 1, 2, 3, 4, 5, 6, 7)
	if got := impl.NearAll(impl.Net{Nodes: 1}, 0); !slices.Equal(got, []int{0}) {
		t.Error("distances in one node are", got)
	}
	if got := impl.NearTree(impl.Net{Nodes: 2}, 1); !slices.Equal(got, []int{-1, -1}) {
		t.Error("first arcs without arcs are", got)
	}
}

// checkNothingNear expects the fixed results for a node that does not exist, or in an invalid graph.
func checkNothingNear(t *testing.T, n impl.Net, node int) {
	t.Helper()
	all, to, tree := impl.NearAll(n, node), impl.NearTo(n, node), impl.NearTree(n, node)
	if len(all)+len(to)+len(tree) != 0 {
		t.Error("for the node", node, "results are", all, to, tree)
	}
	for _, ends := range [][2]int{{node, 0}, {0, node}, {node, node}} {
		if got, ok := impl.NearWalk(n, ends[0], ends[1]); ok || len(got) != 0 {
			t.Errorf("NearWalk from %d to %d is %v %v", ends[0], ends[1], got, ok)
		}
	}
}

func TestNearWithoutANode(t *testing.T) {
	for _, n := range []impl.Net{example(), {Nodes: 1}, largest()} {
		for _, node := range noNodes(n) {
			checkNothingNear(t, n, node)
		}
	}
}

func TestNearInAnInvalidGraph(t *testing.T) {
	eachInvalidNet(t, func(t *testing.T, n impl.Net) {
		for _, node := range []int{-1, 0, 1, n.Nodes - 1, n.Nodes} {
			checkNothingNear(t, n, node)
		}
	})
}

func TestNearAgreesWithTryingAllWalks(t *testing.T) {
	eachNet(t, func(t *testing.T, n impl.Net) {
		near := allNear(n)
		for to := range n.Nodes {
			for from, want := range bestWays(n, to) {
				if near[from][to] != want.cost {
					t.Errorf("the distance from %d to %d is %d, not %d", from, to, near[from][to], want.cost)
				}
				got, ok := impl.NearWalk(n, from, to)
				if ok != (want.cost != impl.Far) || !slices.Equal(got, want.arcs) {
					t.Errorf("the best walk from %d to %d is %v %v, not %v", from, to, got, ok, want.arcs)
				}
			}
		}
	})
}

// P10
func TestDistancesAreStable(t *testing.T) {
	eachNet(t, func(t *testing.T, n impl.Net) {
		for from, near := range allNear(n) {
			if len(near) != n.Nodes || near[from] != 0 {
				t.Fatal("from", from, "distances are", near)
			}
			for node, cost := range near {
				attained := false
				for _, a := range n.Arcs {
					if a.To != node || near[a.From] == impl.Far {
						continue
					}
					if near[a.From]+a.Cost < cost {
						t.Error("from", from, "the arc", a, "gives a smaller distance than", cost)
					}
					attained = attained || near[a.From]+a.Cost == cost
				}
				if cost != impl.Far && node != from && !attained {
					t.Error("from", from, "no arc attains the distance to", node)
				}
			}
		}
	})
}

// P11
func TestTriangleInequality(t *testing.T) {
	eachNet(t, func(t *testing.T, n impl.Net) {
		near := allNear(n)
		for a := range near {
			for b := range near {
				for c := range near {
					if near[a][c] > near[a][b]+near[b][c] {
						t.Error("via", b, "is nearer from", a, "to", c)
					}
				}
			}
		}
	})
}

// P12
func TestDistancesToANodeAreReverseDistances(t *testing.T) {
	eachNet(t, func(t *testing.T, n impl.Net) {
		near := allNear(n)
		for to := range n.Nodes {
			got := impl.NearTo(n, to)
			if !slices.Equal(got, impl.NearAll(impl.NetBack(n), to)) {
				t.Error("NearTo", to, "is not NearAll in the reverse graph")
			}
			if len(got) != n.Nodes {
				t.Fatal("NearTo", to, "is", got)
			}
			for from := range near {
				if got[from] != near[from][to] {
					t.Error("NearTo", to, "is not NearAll from", from)
				}
			}
		}
	})
}

// P13
func TestBestWalkIsAShortestPath(t *testing.T) {
	eachNet(t, func(t *testing.T, n impl.Net) {
		for from, near := range allNear(n) {
			for to, cost := range near {
				w, ok := impl.NearWalk(n, from, to)
				if ok != (cost != impl.Far) {
					t.Fatal("NearWalk from", from, "to", to, "is", w, ok)
				}
				if ok && impl.WalkCost(n, w) != cost {
					t.Error(w, "does not cost", cost)
				}
				nodes := impl.WalkNodes(n, w)
				if from == to || !ok {
					if len(w) != 0 {
						t.Error("from", from, "to", to, "there is", w)
					}
					continue
				}
				if nodes[0] != from || nodes[len(nodes)-1] != to {
					t.Error(w, "does not lead from", from, "to", to)
				}
				slices.Sort(nodes)
				if len(slices.Compact(nodes)) != len(w)+1 {
					t.Error(w, "visits a node twice")
				}
			}
		}
	})
}

// P15
func TestSuffixesOfBestWalksAreBestWalks(t *testing.T) {
	eachNet(t, func(t *testing.T, n impl.Net) {
		for from := range n.Nodes {
			for to := range n.Nodes {
				w, _ := impl.NearWalk(n, from, to)
				if len(w) == 0 {
					continue
				}
				rest, ok := impl.NearWalk(n, n.Arcs[w[0]].To, to)
				if !ok || !slices.Equal(rest, w[1:]) {
					t.Error("behind the first arc of", w, "the best walk is", rest, ok)
				}
			}
		}
	})
}

// followed is the arcs on the way to `to` in a tree of first arcs, and whether it comes there.
func followed(n impl.Net, first []int, from int, to int) ([]int, bool) {
	var w []int
	for node := from; node != to; node = n.Arcs[w[len(w)-1]].To {
		if first[node] < 0 || len(w) > n.Nodes {
			return nil, false
		}
		w = append(w, first[node])
	}
	return w, true
}

// P16
func TestTreeOfFirstArcsContainsBestWalks(t *testing.T) {
	eachNet(t, func(t *testing.T, n impl.Net) {
		for to := range n.Nodes {
			first := impl.NearTree(n, to)
			if len(first) != n.Nodes || first[to] != -1 {
				t.Fatal("first arcs to", to, "are", first)
			}
			for from := range n.Nodes {
				want, found := impl.NearWalk(n, from, to)
				got, ok := followed(n, first, from, to)
				if ok != found || !slices.Equal(got, want) {
					t.Error("following first arcs from", from, "to", to, "is", got, "not", want)
				}
				if !found && first[from] != -1 {
					t.Error("there is no walk from", from, "but the first arc", first[from])
				}
			}
		}
	})
}

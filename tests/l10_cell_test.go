package tests

import (
	"math/rand/v2"
	"slices"
	"testing"

	"loop.example/waymark/impl"
)

// someParts are partitions of n: one part, as many as possible, and arbitrary ones.
func someParts(r *rand.Rand, n impl.Net) [][]int {
	most := make([]int, n.Nodes)
	for i := range most {
		most[i] = i % impl.PartsMax
	}
	return [][]int{
		make([]int, n.Nodes), slices.Repeat([]int{impl.PartsMax - 1}, n.Nodes), most,
		numbers(r, n.Nodes, 1), numbers(r, n.Nodes, 2), numbers(r, n.Nodes, impl.PartsMax-1),
	}
}

// eachParts runs a test for partitions of every valid graph.
func eachParts(t *testing.T, test func(t *testing.T, n impl.Net, part []int)) {
	t.Helper()
	r := source()
	eachNet(t, func(t *testing.T, n impl.Net) {
		for _, part := range someParts(r, n) {
			test(t, n, part)
			if t.Failed() {
				t.Fatal("with the parts", part)
			}
		}
	})
}

// isEdge says whether a node has an arc to or from another part.
func isEdge(n impl.Net, part []int, node int) bool {
	return slices.ContainsFunc(n.Arcs, func(a impl.Arc) bool {
		return (a.From == node || a.To == node) && part[a.From] != part[a.To]
	})
}

// insideCost is the cost of the cheapest walk that visits no node of another part; it tries all walks.
func insideCost(n impl.Net, part []int, from int, to int) int {
	inside := impl.Net{Nodes: n.Nodes}
	for _, a := range n.Arcs {
		if part[a.From] == part[from] && part[a.To] == part[from] {
			inside.Arcs = append(inside.Arcs, a)
		}
	}
	return bestWays(inside, to)[from].cost
}

// overByHand is the overlay, one entry after the other as the document says.
func overByHand(n impl.Net, part []int) [][]int {
	over := square(n.Nodes, impl.Far)
	for a := range n.Nodes {
		for b := range n.Nodes {
			switch {
			case part[a] != part[b]:
				for _, c := range n.Arcs {
					if c.From == a && c.To == b {
						over[a][b] = min(over[a][b], c.Cost)
					}
				}
			case a != b && isEdge(n, part, a) && isEdge(n, part, b):
				over[a][b] = insideCost(n, part, a, b)
			}
		}
	}
	return over
}

func TestPartExamples(t *testing.T) {
	n := example()
	part := []int{0, 0, 1, 1}
	far := impl.Far
	checkInts(t, "the boundary", impl.PartEdges(n, part), 0, 1, 2, 3)
	if got, want := impl.PartOver(n, part), [][]int{{far, 5, 12, far}, {far, far, 4, 9}, {far, far, far, 1}, {2, far, far, far}}; !sameTable(got, want) {
		t.Error("the overlay is", got)
	}
	if got := impl.PartCut(n, part); got != 4 {
		t.Error("there are", got, "arcs between parts")
	}
	checkPartNear(t, n, part, 0, 3, 10)
	checkPartNear(t, n, part, 2, 1, 8)
	checkPartNear(t, n, part, 1, 0, 7)
	// Part numbers may be any in any order, and parts may be empty.
	checkInts(t, "the boundary", impl.PartEdges(n, []int{3, 3, 3, 0}), 0, 1, 2, 3)
	checkInts(t, "the boundary of one part", impl.PartEdges(n, []int{2, 2, 2, 2}))
}

// checkPartNear expects a distance.
func checkPartNear(t *testing.T, n impl.Net, part []int, from int, to int, want int) {
	t.Helper()
	if got := impl.PartNear(n, part, from, to); got != want {
		t.Errorf("PartNear from %d to %d is %d, not %d", from, to, got, want)
	}
}

func TestWayThatLeavesAPartAndComesBack(t *testing.T) {
	// From 0 to 1, both in part 0, it is cheaper over 2 and 3 in part 1.
	n := costs(4, [3]int{0, 1, 9}, [3]int{0, 2, 1}, [3]int{2, 3, 1}, [3]int{3, 1, 1})
	part := []int{0, 0, 1, 1}
	checkPartNear(t, n, part, 0, 1, 3)
	// In the overlay, the way within the part counts.
	if got := impl.PartOver(n, part); got[0][1] != 9 || got[2][3] != 1 {
		t.Error("the overlay is", got)
	}
	// Without the arc there is no way within the part, but the other one.
	n.Arcs = n.Arcs[1:]
	checkPartNear(t, n, part, 0, 1, 3)
	if got := impl.PartOver(n, part); got[0][1] != impl.Far {
		t.Error("the overlay is", got)
	}
	// One and the same part is left twice, and entered in between: 0 and 1 and 2 in part 0, with part 1 between them.
	n = costs(5, [3]int{0, 3, 1}, [3]int{3, 1, 1}, [3]int{1, 4, 1}, [3]int{4, 2, 1}, [3]int{0, 1, 50}, [3]int{1, 2, 50})
	checkPartNear(t, n, []int{0, 0, 0, 1, 2}, 0, 2, 4)
	checkPartNear(t, n, []int{0, 0, 0, 1, 1}, 0, 2, 4)
	// A part between others is left and entered again on the way from one to another.
	n = costs(6, [3]int{0, 1, 1}, [3]int{1, 2, 1}, [3]int{2, 3, 1}, [3]int{3, 4, 1}, [3]int{4, 5, 1}, [3]int{1, 3, 50})
	checkPartNear(t, n, []int{0, 1, 2, 1, 1, 3}, 0, 5, 5)
}

func TestInnerNodesAreNotInTheOverlay(t *testing.T) {
	// 1 is inside part 0, on the only way from 0 to 2; 4 is inside part 1.
	n := costs(5, [3]int{0, 1, 1}, [3]int{1, 2, 2}, [3]int{2, 3, 4}, [3]int{3, 4, 8}, [3]int{3, 0, 16})
	part := []int{0, 0, 0, 1, 1}
	checkInts(t, "the boundary", impl.PartEdges(n, part), 0, 2, 3)
	want := square(5, impl.Far)
	want[0][2], want[2][3], want[3][0] = 3, 4, 16
	if got := impl.PartOver(n, part); !sameTable(got, want) {
		t.Error("the overlay is", got)
	}
	checkPartNear(t, n, part, 1, 4, 14)
	checkPartNear(t, n, part, 1, 1, 0)
	checkPartNear(t, n, part, 2, 1, 21)
	checkPartNear(t, n, part, 4, 0, impl.Far)
}

func TestOverlayTakesTheCheapestTwin(t *testing.T) {
	n := twins()
	if got := impl.PartOver(n, []int{0, 1, 1}); got[0][1] != 3 || got[1][0] != 1 {
		t.Error("the overlay is", got)
	}
	if got := impl.PartCut(n, []int{0, 1, 1}); got != 4 {
		t.Error("there are", got, "arcs between parts")
	}
}

func TestPartsAtTheLimits(t *testing.T) {
	n := largest()
	part := []int{0, 1, 2, 3, 0, 1, 2, 3}
	checkInts(t, "the boundary", impl.PartEdges(n, part), upTo(impl.NodesMax)...)
	if got := impl.PartCut(n, part); got != impl.ArcsMax {
		t.Error("there are", got, "arcs between parts")
	}
	checkPartNear(t, n, part, 1, 0, 7*impl.CostMax)
	one := impl.Net{Nodes: 1}
	for number := range impl.PartsMax {
		checkInts(t, "the boundary of one node", impl.PartEdges(one, []int{number}))
		if got := impl.PartOver(one, []int{number}); !sameTable(got, square(1, impl.Far)) {
			t.Error("the overlay of one node is", got)
		}
		checkPartNear(t, one, []int{number}, 0, 0, 0)
		if got := impl.PartCut(one, []int{number}); got != 0 {
			t.Error("there are", got, "arcs in one node")
		}
	}
}

// checkNoParts expects the fixed results for what is not a partition of a graph.
func checkNoParts(t *testing.T, n impl.Net, part []int) {
	t.Helper()
	checkInts(t, "the boundary", impl.PartEdges(n, part))
	if got := impl.PartOver(n, part); len(got) != 0 {
		t.Error("the overlay is", got)
	}
	if got := impl.PartCut(n, part); got != -1 {
		t.Error("there are", got, "arcs between parts")
	}
	for _, ends := range [][2]int{{0, 0}, {0, 1}, {1, 0}, {-1, 0}, {0, n.Nodes}} {
		checkPartNear(t, n, part, ends[0], ends[1], -1)
	}
}

func TestInvalidParts(t *testing.T) {
	for _, n := range []impl.Net{example(), {Nodes: 1}, largest(), {Nodes: 3}} {
		for name, part := range invalidNumbers(n.Nodes, impl.PartsMax-1) {
			t.Run(name, func(t *testing.T) { checkNoParts(t, n, part) })
		}
	}
}

func TestPartsInAnInvalidGraph(t *testing.T) {
	eachInvalidNet(t, func(t *testing.T, n impl.Net) {
		checkNoParts(t, n, nil)
		checkNoParts(t, n, []int{0, 1, 0, 1})
		if n.Nodes > 0 && n.Nodes < 100 {
			checkNoParts(t, n, make([]int, n.Nodes))
		}
	})
}

func TestPartNearWithoutANode(t *testing.T) {
	for _, n := range []impl.Net{example(), {Nodes: 1}, largest()} {
		part := make([]int, n.Nodes)
		for _, node := range noNodes(n) {
			checkPartNear(t, n, part, node, 0, -1)
			checkPartNear(t, n, part, 0, node, -1)
			checkPartNear(t, n, part, node, node, -1)
		}
	}
}

// P45
func TestBoundaryNodesHaveArcsToOtherParts(t *testing.T) {
	eachParts(t, func(t *testing.T, n impl.Net, part []int) {
		var want []int
		for node := range n.Nodes {
			if isEdge(n, part, node) {
				want = append(want, node)
			}
		}
		edges := impl.PartEdges(n, part)
		checkInts(t, "the boundary", edges, want...)
		if (len(edges) > 0) != (impl.PartCut(n, part) > 0) {
			t.Error("there are", impl.PartCut(n, part), "arcs between parts, but the boundary is", edges)
		}
	})
}

// P46
func TestOverlayNeverUndercutsDistances(t *testing.T) {
	eachParts(t, func(t *testing.T, n impl.Net, part []int) {
		over := impl.PartOver(n, part)
		if len(over) != n.Nodes {
			t.Fatal("the overlay is", over)
		}
		for a, near := range allNear(n) {
			for b, cost := range near {
				if over[a][b] < cost {
					t.Error("from", a, "to", b, "the overlay has", over[a][b], "less than", cost)
				}
				if over[a][b] != impl.Far && !(isEdge(n, part, a) && isEdge(n, part, b)) {
					t.Error("the overlay has", over[a][b], "from", a, "to", b)
				}
			}
		}
	})
}

func TestOverlayAgreesWithTryingAllWalks(t *testing.T) {
	r := source()
	eachNet(t, func(t *testing.T, n impl.Net) {
		for _, part := range someParts(r, n)[2:5] {
			if got, want := impl.PartOver(n, part), overByHand(n, part); !sameTable(got, want) {
				t.Error("with the parts", part, "the overlay is", got, "not", want)
			}
		}
	})
}

// P47
func TestQueriesWithTheOverlayAreExact(t *testing.T) {
	eachParts(t, func(t *testing.T, n impl.Net, part []int) {
		for from, near := range allNear(n) {
			for to, cost := range near {
				checkPartNear(t, n, part, from, to, cost)
			}
		}
	})
}

// P48
func TestEveryArcIsInternalOrExternal(t *testing.T) {
	eachParts(t, func(t *testing.T, n impl.Net, part []int) {
		inside := 0
		for _, a := range n.Arcs {
			if part[a.From] == part[a.To] {
				inside++
			}
		}
		cut := impl.PartCut(n, part)
		if cut+inside != len(n.Arcs) {
			t.Error("of", len(n.Arcs), "arcs,", inside, "are within parts and", cut, "between them")
		}
		if got := impl.PartCut(impl.NetBack(n), part); got != cut {
			t.Error("in the reverse graph", got, "arcs are between parts, not", cut)
		}
	})
}

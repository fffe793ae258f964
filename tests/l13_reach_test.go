package tests

import (
	"math"
	"slices"
	"testing"

	"loop.example/waymark/impl"
)

// budgets are some that are enough for nothing, for something, and for everything in n.
func budgets(n impl.Net) []int {
	list := []int{math.MinInt, -impl.Far, -1, 0, 1, 2, 50, impl.CostMax, 7 * impl.CostMax, impl.Far - 1, impl.Far, impl.Far + 1, math.MaxInt}
	// What is just enough, and one less.
	for _, near := range allNear(n) {
		for _, cost := range near {
			list = append(list, cost-1, cost)
		}
	}
	slices.Sort(list)
	return slices.Compact(list)
}

// eachBudget runs a test for budgets, in ascending order, from every node of every valid graph, with the distances from there.
func eachBudget(t *testing.T, test func(t *testing.T, n impl.Net, near []int, from int, most int)) {
	t.Helper()
	eachNet(t, func(t *testing.T, n impl.Net) {
		list := budgets(n)
		for from, near := range allNear(n) {
			for _, most := range list {
				test(t, n, near, from, most)
				if t.Failed() {
					t.Fatal("from", from, "with the budget", most)
				}
			}
		}
	})
}

// connected says for each two nodes whether the first one reaches the second one. It needs no distances.
func connected(n impl.Net) [][]bool {
	table := make([][]bool, n.Nodes)
	for node := range table {
		table[node] = make([]bool, n.Nodes)
		table[node][node] = true
	}
	for range n.Nodes {
		for _, a := range n.Arcs {
			for from := range table {
				table[from][a.To] = table[from][a.To] || table[from][a.From]
			}
		}
	}
	return table
}

func TestReachExamples(t *testing.T) {
	n := example()
	checkInts(t, "for 8", impl.ReachIn(n, 0, 8), 0, 1)
	checkInts(t, "for 9", impl.ReachIn(n, 0, 9), 0, 1, 2)
	checkInts(t, "for 10", impl.ReachIn(n, 0, 10), 0, 1, 2, 3)
	checkInts(t, "for 2 from 3", impl.ReachIn(n, 3, 2), 0, 3)
	checkInts(t, "the arcs for 8", impl.ReachArcs(n, 0, 8), 5, 3, 8, -1, -1, 3)
	checkInts(t, "the arcs for 10", impl.ReachArcs(n, 0, 10), 5, 4, 10, 1, 0, 5)
	checkInts(t, "the arcs for 100", impl.ReachArcs(n, 0, 100), 5, 4, 12, 1, 2, 9)
	checkInts(t, "the arcs for 0", impl.ReachArcs(n, 1, 0), -1, 0, -1, -1, -1, 0)
	n.Arcs = n.Arcs[:3]
	checkInts(t, "the components", impl.ReachParts(n), 0, 1, 2, 3)
	if got := impl.ReachFar(n); got != 9 {
		t.Error("the diameter is", got)
	}
}

func TestComponents(t *testing.T) {
	// Two rings, with a way from the one to the other and a node behind it.
	n := costs(6, [3]int{5, 1, 1}, [3]int{1, 5, 1}, [3]int{1, 2, 1}, [3]int{2, 4, 1}, [3]int{4, 3, 1}, [3]int{3, 2, 1}, [3]int{3, 0, 1})
	checkInts(t, "the components", impl.ReachParts(n), 0, 1, 2, 2, 2, 1)
	// An arc back joins both rings.
	n.Arcs = append(n.Arcs, impl.Arc{From: 4, To: 5, Cost: impl.CostMax})
	checkInts(t, "the components", impl.ReachParts(n), 0, 1, 1, 1, 1, 1)
	n.Arcs = append(n.Arcs, impl.Arc{From: 0, To: 2})
	checkInts(t, "the components", impl.ReachParts(n), 0, 0, 0, 0, 0, 0)
	checkInts(t, "the components of arcs that cost nothing", impl.ReachParts(freeRing()), 0, 0, 0, 3, 4)
}

func TestReachOfWhatCannotBeReached(t *testing.T) {
	n := longest()
	for _, most := range []int{7 * impl.CostMax, impl.Far - 1, impl.Far, impl.Far + 1, math.MaxInt} {
		checkInts(t, "what is reached", impl.ReachIn(n, 5, most), 5, 6, 7)
		checkInts(t, "the arcs", impl.ReachArcs(n, 5, most), -1, -1, -1, -1, -1, impl.CostMax, impl.CostMax)
	}
	checkInts(t, "what is reached", impl.ReachIn(n, 7, math.MaxInt), 7)
	checkInts(t, "the components", impl.ReachParts(n), upTo(impl.NodesMax)...)
}

func TestReachForNothing(t *testing.T) {
	n := freeRing()
	checkInts(t, "for 0", impl.ReachIn(n, 0, 0), 0, 1, 2)
	checkInts(t, "the arcs for 0", impl.ReachArcs(n, 0, 0), -1, 0, 0, 0, 0, 0)
	for _, most := range []int{-1, math.MinInt} {
		checkInts(t, "for less than nothing", impl.ReachIn(n, 0, most))
		checkInts(t, "the arcs for less than nothing", impl.ReachArcs(n, 0, most), -1, -1, -1, -1, -1, -1)
	}
}

func TestReachAtTheLimits(t *testing.T) {
	for _, n := range []impl.Net{{Nodes: 1}, {Nodes: impl.NodesMax}} {
		if got := impl.ReachFar(n); got != 0 {
			t.Error("without arcs the diameter is", got)
		}
		checkInts(t, "without arcs the components", impl.ReachParts(n), upTo(n.Nodes)...)
		checkInts(t, "without arcs", impl.ReachIn(n, 0, math.MaxInt), 0)
		checkInts(t, "without arcs, the arcs", impl.ReachArcs(n, 0, 1))
	}
	for _, n := range []impl.Net{longest(), largest()} {
		if got := impl.ReachFar(n); got != 7*impl.CostMax {
			t.Error("the diameter is", got)
		}
		checkInts(t, "all nodes", impl.ReachIn(n, 0, 7*impl.CostMax), upTo(impl.NodesMax)...)
		checkInts(t, "all nodes but one", impl.ReachIn(n, 0, 7*impl.CostMax-1), upTo(impl.NodesMax-1)...)
	}
	checkInts(t, "the components", impl.ReachParts(largest()), make([]int, impl.NodesMax)...)
}

func TestReachWithoutANode(t *testing.T) {
	for _, n := range []impl.Net{example(), {Nodes: 1}, largest()} {
		for _, node := range noNodes(n) {
			for _, most := range []int{-1, 0, 9, impl.Far, math.MaxInt} {
				checkInts(t, "without a node", impl.ReachIn(n, node, most))
				checkInts(t, "without a node, the arcs", impl.ReachArcs(n, node, most))
			}
		}
	}
}

func TestReachInAnInvalidGraph(t *testing.T) {
	eachInvalidNet(t, func(t *testing.T, n impl.Net) {
		for _, node := range []int{-1, 0, 1, n.Nodes - 1} {
			for _, most := range []int{-1, 0, impl.Far, math.MaxInt} {
				checkInts(t, "what is reached", impl.ReachIn(n, node, most))
				checkInts(t, "the arcs", impl.ReachArcs(n, node, most))
			}
		}
		checkInts(t, "the components", impl.ReachParts(n))
		if got := impl.ReachFar(n); got != -1 {
			t.Error("the diameter is", got)
		}
	})
}

// P56
func TestIsochronesGrowWithTheBudget(t *testing.T) {
	before := 0
	eachBudget(t, func(t *testing.T, n impl.Net, near []int, from int, most int) {
		var want []int
		for node, cost := range near {
			if cost != impl.Far && cost <= most {
				want = append(want, node)
			}
		}
		got := impl.ReachIn(n, from, most)
		checkInts(t, "what is reached", got, want...)
		// Budgets ascend from the smallest number on.
		if most != math.MinInt && len(got) < before {
			t.Error("with a larger budget only", got, "is reached")
		}
		before = len(got)
	})
}

// P57
func TestArcsAreReachedAsFarAsTheBudgetAllows(t *testing.T) {
	eachBudget(t, func(t *testing.T, n impl.Net, near []int, from int, most int) {
		nodes, arcs := impl.ReachIn(n, from, most), impl.ReachArcs(n, from, most)
		if len(arcs) != len(n.Arcs) {
			t.Fatal("the arcs are", arcs)
		}
		for i, a := range n.Arcs {
			inside := slices.Contains(nodes, a.From)
			if (arcs[i] != -1) != inside {
				t.Error("the arc", a, "is gone for", arcs[i], "and the nodes are", nodes)
			}
			if inside && arcs[i] == a.Cost && !slices.Contains(nodes, a.To) {
				t.Error("the arc", a, "leads out of", nodes)
			}
			if inside && arcs[i] != a.Cost && (arcs[i] > a.Cost || near[a.From]+arcs[i] != most) {
				t.Error("the arc", a, "is gone for", arcs[i])
			}
		}
	})
}

// P58
func TestComponentsReachEachOther(t *testing.T) {
	eachNet(t, func(t *testing.T, n impl.Net) {
		reaches, parts := connected(n), impl.ReachParts(n)
		if len(parts) != n.Nodes {
			t.Fatal("the components are", parts)
		}
		for a := range n.Nodes {
			least := a
			for b := n.Nodes - 1; b >= 0; b-- {
				both := reaches[a][b] && reaches[b][a]
				if (parts[a] == parts[b]) != both {
					t.Error("the components of", a, "and", b, "are", parts[a], parts[b])
				}
				if both {
					least = b
				}
			}
			if parts[a] != least {
				t.Error("the component of", a, "is", parts[a], "not", least)
			}
		}
	})
}

// P59
func TestDiameterBoundsAllDistances(t *testing.T) {
	eachNet(t, func(t *testing.T, n impl.Net) {
		want := 0
		for _, near := range allNear(n) {
			for _, cost := range near {
				if cost != impl.Far {
					want = max(want, cost)
				}
			}
		}
		if got := impl.ReachFar(n); got != want {
			t.Error("the diameter is", got, "not", want)
		}
		if got := impl.ReachFar(impl.NetBack(n)); got != want {
			t.Error("in the reverse graph the diameter is", got, "not", want)
		}
	})
}

package tests

import (
	"cmp"
	"math"
	"slices"
	"testing"

	"loop.example/waymark/impl"
)

// prices makes a graph of arcs that are a beginning, an end, a cost and a toll.
func prices(nodes int, arcs ...[4]int) impl.Net {
	n := impl.Net{Nodes: nodes}
	for _, a := range arcs {
		n.Arcs = append(n.Arcs, impl.Arc{From: a[0], To: a[1], Cost: a[2], Toll: a[3]})
	}
	return n
}

// pairOf is the cost and the toll of arcs that all exist.
func pairOf(n impl.Net, w []int) impl.Pair {
	var sum impl.Pair
	for _, arc := range w {
		sum.Cost += n.Arcs[arc].Cost
		sum.Toll += n.Arcs[arc].Toll
	}
	return sum
}

// atMost says whether a pair is at most as large as another one in both components.
func atMost(a impl.Pair, b impl.Pair) bool {
	return a.Cost <= b.Cost && a.Toll <= b.Toll
}

// pairsByHand is the front of all simple walks, and of the walk without arcs from a node to itself.
// Each other walk costs as much as a simple one, or more.
func pairsByHand(n impl.Net, from int, to int) []impl.Pair {
	if from == to {
		return []impl.Pair{{}}
	}
	var all []impl.Pair
	for _, w := range simpleWalks(n, from, to) {
		all = append(all, pairOf(n, w))
	}
	var pairs []impl.Pair
	for _, p := range all {
		worse := slices.ContainsFunc(all, func(other impl.Pair) bool { return other != p && atMost(other, p) })
		if !worse && !slices.Contains(pairs, p) {
			pairs = append(pairs, p)
		}
	}
	slices.SortFunc(pairs, func(a impl.Pair, b impl.Pair) int { return cmp.Compare(a.Cost, b.Cost) })
	return pairs
}

// eachPairs runs a test for the fronts between all nodes of every valid graph.
func eachPairs(t *testing.T, test func(t *testing.T, n impl.Net, from int, to int, pairs []impl.Pair)) {
	t.Helper()
	eachNet(t, func(t *testing.T, n impl.Net) {
		for from := range n.Nodes {
			for to := range n.Nodes {
				test(t, n, from, to, impl.PairAll(n, from, to))
				if t.Failed() {
					t.Error("from", from, "to", to)
					return
				}
			}
		}
	})
}

// weights are some of both, the limits among them.
func weights() [][2]int {
	return [][2]int{{0, 0}, {100, 0}, {0, 100}, {100, 100}, {1, 0}, {0, 1}, {1, 1}, {50, 50}, {1, 100}, {100, 1}, {33, 67}, {7, 2}}
}

// noWeights are numbers that are no weights.
func noWeights() []int {
	return []int{-1, 101, math.MinInt, math.MaxInt}
}

// checkPairs expects a front.
func checkPairs(t *testing.T, n impl.Net, from int, to int, want ...impl.Pair) {
	t.Helper()
	if got := impl.PairAll(n, from, to); !slices.Equal(got, want) {
		t.Errorf("the pairs from %d to %d are %v, not %v", from, to, got, want)
	}
}

// checkPairWith expects the minimum Cost within a toll budget.
func checkPairWith(t *testing.T, n impl.Net, from int, to int, toll int, want int) {
	t.Helper()
	if got := impl.PairWith(n, from, to, toll); got != want {
		t.Errorf("from %d to %d for the toll %d it costs %d, not %d", from, to, toll, got, want)
	}
}

// checkPairSum expects the minimum of a weighted sum.
func checkPairSum(t *testing.T, n impl.Net, from int, to int, cost int, toll int, want int) {
	t.Helper()
	if got := impl.PairSum(n, from, to, cost, toll); got != want {
		t.Errorf("from %d to %d with the weights %d and %d the sum is %d, not %d", from, to, cost, toll, got, want)
	}
}

func TestPairExamples(t *testing.T) {
	n := example()
	checkPairs(t, n, 0, 3, impl.Pair{Cost: 10, Toll: 2}, impl.Pair{Cost: 13})
	checkPairs(t, n, 0, 2, impl.Pair{Cost: 9, Toll: 2}, impl.Pair{Cost: 12})
	checkPairs(t, n, 1, 3, impl.Pair{Cost: 5, Toll: 2}, impl.Pair{Cost: 9, Toll: 1})
	checkPairs(t, n, 3, 1, impl.Pair{Cost: 7})
	checkPairWith(t, n, 1, 3, 2, 5)
	checkPairWith(t, n, 1, 3, 1, 9)
	checkPairWith(t, n, 1, 3, 0, impl.Far)
	checkPairSum(t, n, 1, 3, 10, 39, 128)
	checkPairSum(t, n, 1, 3, 10, 40, 130)
	checkPairSum(t, n, 1, 3, 10, 41, 131)
	checkPairSum(t, n, 1, 3, 0, 0, 0)
}

func TestPairsThatAreNotOnTheFront(t *testing.T) {
	// Equal pairs are one, and what is as good in one component and worse in the other is left out.
	n := prices(2, [4]int{0, 1, 5, 5}, [4]int{0, 1, 5, 5}, [4]int{0, 1, 5, 6}, [4]int{0, 1, 6, 5}, [4]int{0, 1, 4, 9}, [4]int{0, 1, 9, 4}, [4]int{0, 1, 9, 9})
	want := []impl.Pair{{Cost: 4, Toll: 9}, {Cost: 5, Toll: 5}, {Cost: 9, Toll: 4}}
	checkPairs(t, n, 0, 1, want...)
	slices.Reverse(n.Arcs)
	checkPairs(t, n, 0, 1, want...)
	// One that comes last takes the place of all others.
	n.Arcs = append(n.Arcs, impl.Arc{From: 0, To: 1, Cost: 4, Toll: 4})
	checkPairs(t, n, 0, 1, impl.Pair{Cost: 4, Toll: 4})
	// A pair that is best at no node on the way is no part of a best one.
	line := prices(3, [4]int{0, 1, 1, 9}, [4]int{0, 1, 9, 1}, [4]int{1, 2, 1, 9}, [4]int{1, 2, 9, 1}, [4]int{0, 2, 10, 9}, [4]int{0, 2, 3, 15})
	checkPairs(t, line, 0, 2, impl.Pair{Cost: 2, Toll: 18}, impl.Pair{Cost: 3, Toll: 15}, impl.Pair{Cost: 10, Toll: 9}, impl.Pair{Cost: 18, Toll: 2})
}

func TestPairsFromANodeToItself(t *testing.T) {
	for _, n := range []impl.Net{example(), {Nodes: 1}, {Nodes: impl.NodesMax}, longest(), largest(), freeRing()} {
		for node := range n.Nodes {
			checkPairs(t, n, node, node, impl.Pair{})
			checkPairWith(t, n, node, node, 0, 0)
			checkPairWith(t, n, node, node, -1, impl.Far)
			checkPairWith(t, n, node, node, impl.Far, 0)
			checkPairSum(t, n, node, node, 100, 100, 0)
			checkPairSum(t, n, node, node, 0, 0, 0)
			checkPairSum(t, n, node, node, 101, 0, -1)
		}
	}
}

func TestPairsWithoutAWalk(t *testing.T) {
	n := longest()
	checkPairs(t, n, 1, 0)
	for _, toll := range []int{math.MinInt, -1, 0, impl.Far, math.MaxInt} {
		checkPairWith(t, n, 1, 0, toll, impl.Far)
	}
	for _, w := range weights() {
		checkPairSum(t, n, 1, 0, w[0], w[1], -1)
	}
}

func TestPairsAtTheLimits(t *testing.T) {
	n := largest()
	sum := 7 * impl.CostMax
	checkPairs(t, n, 0, 7, impl.Pair{Cost: sum, Toll: sum})
	checkPairWith(t, n, 0, 7, sum, sum)
	checkPairWith(t, n, 0, 7, sum-1, impl.Far)
	checkPairWith(t, n, 0, 7, math.MaxInt, sum)
	checkPairWith(t, n, 0, 7, math.MinInt, impl.Far)
	checkPairSum(t, n, 0, 7, 100, 100, 200*sum)
	// Every choice of cost or toll gives a pair of its own: powers of two add up.
	powers := impl.Net{Nodes: impl.NodesMax}
	for i := range impl.NodesMax - 1 {
		powers.Arcs = append(powers.Arcs, impl.Arc{From: i, To: i + 1, Cost: 1 << i}, impl.Arc{From: i, To: i + 1, Toll: 1 << i})
	}
	var want []impl.Pair
	for cost := range 128 {
		want = append(want, impl.Pair{Cost: cost, Toll: 127 - cost})
	}
	checkPairs(t, powers, 0, 7, want...)
	checkPairWith(t, powers, 0, 7, 27, 100)
	checkPairSum(t, powers, 0, 7, 3, 2, 254)
}

// checkNoPairs expects the fixed results where there is nothing to search for.
func checkNoPairs(t *testing.T, n impl.Net, from int, to int) {
	t.Helper()
	checkPairs(t, n, from, to)
	for _, toll := range []int{-1, 0, impl.CostMax, math.MaxInt} {
		checkPairWith(t, n, from, to, toll, -1)
	}
	for _, w := range append(weights(), [2]int{-1, 101}) {
		checkPairSum(t, n, from, to, w[0], w[1], -1)
	}
}

func TestPairsWithoutANode(t *testing.T) {
	for _, n := range []impl.Net{example(), {Nodes: 1}, largest()} {
		for _, node := range noNodes(n) {
			checkNoPairs(t, n, node, 0)
			checkNoPairs(t, n, 0, node)
			checkNoPairs(t, n, node, node)
		}
	}
}

func TestPairsInAnInvalidGraph(t *testing.T) {
	eachInvalidNet(t, func(t *testing.T, n impl.Net) {
		checkNoPairs(t, n, 0, 1)
		checkNoPairs(t, n, 1, 0)
		checkNoPairs(t, n, 0, 0)
	})
}

func TestInvalidWeights(t *testing.T) {
	for _, n := range []impl.Net{example(), largest()} {
		for _, wrong := range noWeights() {
			checkPairSum(t, n, 0, 3, wrong, 50, -1)
			checkPairSum(t, n, 0, 3, 50, wrong, -1)
			checkPairSum(t, n, 0, 3, wrong, wrong, -1)
			checkPairSum(t, n, 0, 0, 0, wrong, -1)
		}
	}
}

// P80
func TestParetoFrontIsStrictlyMonotone(t *testing.T) {
	several := 0
	eachPairs(t, func(t *testing.T, n impl.Net, from int, to int, pairs []impl.Pair) {
		tolled, _ := impl.CostNet(n, tollsIn(n))
		cost, toll := impl.NearAll(n, from)[to], impl.NearAll(tolled, from)[to]
		if len(pairs) == 0 {
			if cost != impl.Far {
				t.Error("there is no pair")
			}
			return
		}
		if pairs[0].Cost != cost || pairs[len(pairs)-1].Toll != toll {
			t.Error("the pairs are", pairs, "but at least it costs", cost, "and the toll", toll)
		}
		for i, p := range pairs[1:] {
			if p.Cost <= pairs[i].Cost || p.Toll >= pairs[i].Toll {
				t.Error("the pairs are", pairs)
			}
			several++
		}
	})
	if several < 500 {
		t.Error("only", several, "pairs follow another one")
	}
}

// P81
func TestNoWalkDominatesTheParetoFront(t *testing.T) {
	eachWalk(t, func(t *testing.T, n impl.Net, w []int) {
		if len(w) == 0 {
			return
		}
		nodes, p := impl.WalkNodes(n, w), pairOf(n, w)
		pairs := impl.PairAll(n, nodes[0], nodes[len(w)])
		if !slices.ContainsFunc(pairs, func(other impl.Pair) bool { return atMost(other, p) }) {
			t.Error("the walk", w, "has", p, "and the front is", pairs)
		}
	})
}

// P82
func TestParetoPairsBelongToWalks(t *testing.T) {
	eachPairs(t, func(t *testing.T, n impl.Net, from int, to int, pairs []impl.Pair) {
		if want := pairsByHand(n, from, to); !slices.Equal(pairs, want) {
			t.Error("the pairs are", pairs, "not", want)
		}
		walks := impl.SomeWalks(n, from, to, impl.SomeMax)
		if from == to || len(walks) == impl.SomeMax {
			return
		}
		for _, p := range pairs {
			if !slices.ContainsFunc(walks, func(w []int) bool { return pairOf(n, w) == p }) {
				t.Error(p, "is the pair of none of", walks)
			}
		}
	})
}

// P83
func TestLargerTollBudgetNeverCostsMore(t *testing.T) {
	eachPairs(t, func(t *testing.T, n impl.Net, from int, to int, pairs []impl.Pair) {
		budgets := []int{math.MinInt, -1, 0, 1, impl.CostMax, math.MaxInt}
		for _, p := range pairs {
			budgets = append(budgets, p.Toll-1, p.Toll)
		}
		slices.Sort(budgets)
		before := impl.Far
		for _, toll := range budgets {
			least := impl.Far
			for _, p := range pairs {
				if p.Toll <= toll {
					least = min(least, p.Cost)
				}
			}
			checkPairWith(t, n, from, to, toll, least)
			if least > before {
				t.Error("for the toll", toll, "it costs", least, "and for less", before)
			}
			before = least
		}
		checkPairWith(t, n, from, to, impl.Far, impl.NearAll(n, from)[to])
	})
}

// P84
func TestWeightedSumIsMinimizedOnTheFront(t *testing.T) {
	eachPairs(t, func(t *testing.T, n impl.Net, from int, to int, pairs []impl.Pair) {
		for _, w := range weights() {
			least := -1
			for i, p := range pairs {
				if sum := w[0]*p.Cost + w[1]*p.Toll; i == 0 || sum < least {
					least = sum
				}
			}
			checkPairSum(t, n, from, to, w[0], w[1], least)
		}
		if cost := impl.NearAll(n, from)[to]; cost != impl.Far {
			checkPairSum(t, n, from, to, 100, 0, 100*cost)
		}
	})
}

// P106
func TestSingleCriteriaAreSpecialCases(t *testing.T) {
	eachPairs(t, func(t *testing.T, n impl.Net, from int, to int, pairs []impl.Pair) {
		for _, w := range [][2]int{{100, 0}, {0, 100}} {
			changed, _ := impl.CostNet(n, impl.CostOf(n, w[0], w[1]))
			want := -1
			if cost := impl.NearAll(changed, from)[to]; cost != impl.Far {
				want = 100 * cost
			}
			checkPairSum(t, n, from, to, w[0], w[1], want)
		}
	})
}

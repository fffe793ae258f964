package tests

import (
	"math"
	"math/rand/v2"
	"slices"
	"testing"

	"loop.example/waymark/impl"
)

// observations are so many lists of numbers up to most, one number for each node of n.
func observations(r *rand.Rand, n impl.Net, many int, most int) [][]int {
	var seen [][]int
	for range many {
		seen = append(seen, numbers(r, n.Nodes, most))
	}
	return seen
}

// someSeen are observations in n: one of them, as many as possible, with numbers that are small, all the same, or arbitrary.
func someSeen(r *rand.Rand, n impl.Net) [][][]int {
	return [][][]int{
		observations(r, n, 1, 2), observations(r, n, 1+r.IntN(impl.SeenMax), 0), observations(r, n, 2+r.IntN(3), 1),
		observations(r, n, 3, impl.CostMax), observations(r, n, impl.SeenMax, 9), observations(r, n, impl.SeenMax, impl.CostMax),
	}
}

// eachSeen runs a test for observations in every valid graph.
func eachSeen(t *testing.T, test func(t *testing.T, n impl.Net, seen [][]int)) {
	t.Helper()
	r := source()
	eachNet(t, func(t *testing.T, n impl.Net) {
		for _, seen := range someSeen(r, n) {
			test(t, n, seen)
			if t.Failed() {
				t.Fatal("with the observations", seen)
			}
		}
	})
}

// invalidSeen are lists that are not observations in n: too few, too many, of a wrong length, or with a number out of range.
func invalidSeen(n impl.Net) map[string][][]int {
	zeros := make([]int, n.Nodes)
	lists := map[string][][]int{
		"no observation":           nil,
		"one observation too many": slices.Repeat([][]int{zeros}, impl.SeenMax+1),
		"far too many":             slices.Repeat([][]int{zeros}, 100),
	}
	for name, row := range invalidNumbers(n.Nodes, impl.CostMax) {
		lists["numbers: "+name] = [][]int{row}
		lists["numbers of the first: "+name] = [][]int{row, zeros}
		lists["numbers of the last: "+name] = append(slices.Repeat([][]int{zeros}, impl.SeenMax-1), row)
	}
	return lists
}

// seenByHand is the cost of an assignment by a table of all distances.
func seenByHand(near [][]int, seen [][]int, nodes []int) int {
	sum := 0
	for i, node := range nodes {
		sum += seen[i][node]
		if i > 0 {
			sum += near[nodes[i-1]][node]
		}
	}
	return min(sum, impl.Far)
}

// assignments are all lists of so many nodes of n, in the order of their last node, then of the one before it, and so on.
func assignments(n impl.Net, many int) [][]int {
	lists := [][]int{nil}
	for range many {
		var longer [][]int
		for last := range n.Nodes {
			for _, list := range lists {
				longer = append(longer, slices.Concat(list, []int{last}))
			}
		}
		lists = longer
	}
	return lists
}

// checkSeenBest expects the best assignment.
func checkSeenBest(t *testing.T, n impl.Net, seen [][]int, cost int, want ...int) {
	t.Helper()
	if got, c := impl.SeenBest(n, seen); c != cost || !slices.Equal(got, want) {
		t.Errorf("the best assignment to %v is %v %d, not %v %d", seen, got, c, want, cost)
	}
}

// checkSeenCost expects the cost of an assignment.
func checkSeenCost(t *testing.T, n impl.Net, seen [][]int, nodes []int, want int) {
	t.Helper()
	if got := impl.SeenCost(n, seen, nodes); got != want {
		t.Errorf("with the observations %v, %v costs %d, not %d", seen, nodes, got, want)
	}
}

func TestSeenExamples(t *testing.T) {
	n := example()
	seen := [][]int{{0, 4, 9, 9}, {9, 9, 0, 9}, {9, 9, 9, 0}}
	checkSeenCost(t, n, seen, []int{0, 2, 3}, 10)
	checkSeenCost(t, n, seen, []int{1, 2, 3}, 9)
	checkSeenCost(t, n, seen, []int{2, 2, 3}, 10)
	checkSeenCost(t, n, seen, []int{3, 3, 3}, 18)
	checkSeenCost(t, n, seen, []int{0, 1, 0}, 0+5+9+7+9)
	checkSeenBest(t, n, seen, 9, 1, 2, 3)
	checkSeenBest(t, n, seen[:1], 0, 0)
	checkSeenBest(t, n, seen[1:2], 0, 2)
	checkSeenBest(t, n, [][]int{{7, 5, 5, 6}}, 5, 1)
	// It is cheaper to have stayed than to have gone.
	checkSeenBest(t, n, [][]int{{0, 9, 9, 9}, {4, 0, 9, 9}}, 4, 0, 0)
	checkSeenBest(t, n, [][]int{{0, 9, 9, 9}, {6, 0, 9, 9}}, 5, 0, 1)
}

func TestAssignmentsThatCostTheSame(t *testing.T) {
	// Going nowhere costs nothing: every node is as good.
	free := costs(3, [3]int{0, 1, 0}, [3]int{1, 2, 0}, [3]int{2, 0, 0})
	checkSeenBest(t, free, [][]int{{0, 0, 0}, {0, 0, 0}, {0, 0, 0}}, 0, 0, 0, 0)
	checkSeenBest(t, free, [][]int{{1, 0, 0}, {1, 1, 0}, {1, 0, 0}}, 0, 1, 2, 1)
	// The last node is decided first: 2 then 0 is better than 0 then 1.
	n := costs(3, [3]int{2, 0, 3}, [3]int{0, 1, 3})
	checkSeenBest(t, n, [][]int{{0, 9, 0}, {4, 0, 9}}, 3, 0, 1)
	checkSeenBest(t, n, [][]int{{0, 9, 0}, {3, 0, 9}}, 3, 0, 0)
	checkSeenBest(t, n, [][]int{{1, 9, 0}, {0, 0, 9}}, 1, 0, 0)
	checkSeenBest(t, n, [][]int{{4, 9, 0}, {0, 0, 9}}, 3, 2, 0)
	checkSeenBest(t, n, [][]int{{4, 9, 0}, {1, 0, 9}}, 4, 2, 0)
	// Of the nodes before the last one, the later one is decided first.
	line := costs(4, [3]int{0, 2, 1}, [3]int{1, 2, 1}, [3]int{0, 3, 1}, [3]int{1, 3, 1})
	checkSeenBest(t, line, [][]int{{0, 0, 9, 9}, {0, 0, 9, 9}, {9, 9, 0, 0}}, 1, 0, 0, 2)
	checkSeenBest(t, line, [][]int{{9, 0, 9, 9}, {1, 1, 0, 9}, {9, 9, 9, 0}}, 2, 1, 1, 3)
	ring := costs(3, [3]int{0, 1, 1}, [3]int{1, 0, 1}, [3]int{0, 2, 1}, [3]int{2, 0, 1})
	checkSeenBest(t, ring, [][]int{{2, 0, 1}, {0, 1, 1}, {9, 9, 0}}, 2, 1, 0, 2)
	checkSeenBest(t, ring, [][]int{{2, 0, 1}, {1, 1, 1}, {9, 9, 0}}, 2, 2, 2, 2)
	both := costs(3, [3]int{2, 0, 1}, [3]int{0, 2, 1}, [3]int{1, 2, 1})
	checkSeenBest(t, both, [][]int{{9, 0, 0}, {0, 1, 9}, {9, 9, 0}}, 2, 2, 0, 2)
	checkSeenBest(t, both, [][]int{{9, 0, 0}, {1, 1, 9}, {9, 9, 0}}, 2, 1, 1, 2)
}

func TestSeenWhereNothingCanBeReached(t *testing.T) {
	n := impl.Net{Nodes: 3}
	// Without a way one must have stayed somewhere.
	checkSeenBest(t, n, [][]int{{0, 5, 9}, {9, 5, 9}, {9, 5, 0}}, 15, 1, 1, 1)
	checkSeenCost(t, n, [][]int{{0, 5, 9}, {9, 5, 9}, {9, 5, 0}}, []int{0, 1, 2}, impl.Far)
	checkSeenCost(t, n, [][]int{{0, 0, 0}, {0, 0, 0}}, []int{1, 0}, impl.Far)
	// There is a way out, but none back.
	way := longest()
	seen := [][]int{make([]int, 8), make([]int, 8), make([]int, 8)}
	checkSeenCost(t, way, seen, []int{0, 1, 0}, impl.Far)
	checkSeenCost(t, way, seen, []int{1, 0, 1}, impl.Far)
	checkSeenCost(t, way, seen, []int{0, 1, 1}, impl.CostMax)
	checkSeenBest(t, way, seen, 0, 0, 0, 0)
}

func TestSeenAtTheLimits(t *testing.T) {
	n := longest()
	worst := slices.Repeat([][]int{slices.Repeat([]int{impl.CostMax}, impl.NodesMax)}, impl.SeenMax)
	checkSeenBest(t, n, worst, impl.SeenMax*impl.CostMax, 0, 0, 0, 0, 0, 0)
	checkSeenCost(t, n, worst, []int{0, 1, 2, 3, 4, 7}, impl.SeenMax*impl.CostMax+7*impl.CostMax)
	checkSeenCost(t, n, worst, []int{0, 1, 2, 3, 4, 3}, impl.Far)
	ring := largest()
	checkSeenCost(t, ring, worst, []int{1, 0, 7, 6, 5, 4}, impl.SeenMax*impl.CostMax+5*7*impl.CostMax)
	one := impl.Net{Nodes: 1}
	checkSeenBest(t, one, [][]int{{impl.CostMax}}, impl.CostMax, 0)
	checkSeenCost(t, one, [][]int{{0}}, []int{0}, 0)
	checkSeenBest(t, one, [][]int{{1}, {2}, {3}, {4}, {5}, {6}}, 21, 0, 0, 0, 0, 0, 0)
}

// checkNotSeen expects the fixed results for what are not observations.
func checkNotSeen(t *testing.T, n impl.Net, seen [][]int) {
	t.Helper()
	checkSeenBest(t, n, seen, -1)
	for _, nodes := range [][]int{nil, {0}, {0, 0}, make([]int, len(seen)), make([]int, impl.SeenMax), {-1}} {
		checkSeenCost(t, n, seen, nodes, -1)
	}
}

func TestInvalidObservations(t *testing.T) {
	for _, n := range []impl.Net{example(), {Nodes: 1}, largest(), {Nodes: 2}} {
		for name, seen := range invalidSeen(n) {
			t.Run(name, func(t *testing.T) { checkNotSeen(t, n, seen) })
		}
	}
}

func TestSeenInAnInvalidGraph(t *testing.T) {
	eachInvalidNet(t, func(t *testing.T, n impl.Net) {
		checkNotSeen(t, n, nil)
		checkNotSeen(t, n, [][]int{{0, 0, 0, 0}, {0, 0, 0, 0}})
		if n.Nodes > 0 && n.Nodes < 100 {
			checkNotSeen(t, n, [][]int{make([]int, n.Nodes)})
		}
	})
}

func TestNodesThatAreNotOneForEachObservation(t *testing.T) {
	r := source()
	for _, n := range []impl.Net{example(), {Nodes: 1}, largest(), {Nodes: 3}} {
		for many := 1; many <= impl.SeenMax; many++ {
			seen := observations(r, n, many, impl.CostMax)
			for name, nodes := range invalidNumbers(many, n.Nodes-1) {
				t.Run(name, func(t *testing.T) { checkSeenCost(t, n, seen, nodes, -1) })
			}
		}
	}
	// What is not a node counts before what cannot be reached.
	checkSeenCost(t, impl.Net{Nodes: 2}, [][]int{{0, 0}, {0, 0}, {0, 0}}, []int{0, 1, 2}, -1)
	checkSeenCost(t, impl.Net{Nodes: 2}, [][]int{{0, 0}, {0, 0}, {0, 0}}, []int{0, 1, math.MinInt}, -1)
}

// P65
func TestBestAssignmentIsOptimal(t *testing.T) {
	eachSeen(t, func(t *testing.T, n impl.Net, seen [][]int) {
		near := allNear(n)
		nodes, cost := impl.SeenBest(n, seen)
		checkSeenCost(t, n, seen, nodes, cost)
		if len(nodes) != len(seen) {
			t.Fatal("the best assignment is", nodes)
		}
		for i := range nodes {
			for node := range n.Nodes {
				other := slices.Clone(nodes)
				other[i] = node
				got := impl.SeenCost(n, seen, other)
				if got < cost || got != seenByHand(near, seen, other) {
					t.Error(other, "costs", got, "and the best assignment", nodes, cost)
				}
			}
		}
	})
}

func TestBestAssignmentAgreesWithTryingAll(t *testing.T) {
	eachSeen(t, func(t *testing.T, n impl.Net, seen [][]int) {
		if math.Pow(float64(n.Nodes), float64(len(seen))) > 1000 {
			return
		}
		near := allNear(n)
		var best []int
		least := impl.Far
		for _, nodes := range assignments(n, len(seen)) {
			if cost := seenByHand(near, seen, nodes); cost < least {
				best, least = nodes, cost
			}
		}
		checkSeenBest(t, n, seen, least, best...)
	})
}

// P66
func TestAssignmentsCostAtLeastTheOptimum(t *testing.T) {
	r := source()
	eachSeen(t, func(t *testing.T, n impl.Net, seen [][]int) {
		near := allNear(n)
		_, least := impl.SeenBest(n, seen)
		for range 20 {
			nodes := numbers(r, len(seen), n.Nodes-1)
			cost := impl.SeenCost(n, seen, nodes)
			if cost < least || cost != seenByHand(near, seen, nodes) {
				t.Error(nodes, "costs", cost, "and the best assignment", least)
			}
		}
		for _, row := range seen {
			for node, number := range row {
				checkSeenCost(t, n, [][]int{row}, []int{node}, number)
			}
		}
	})
}

// P67
func TestMoreObservationsNeverCostLess(t *testing.T) {
	eachSeen(t, func(t *testing.T, n impl.Net, seen [][]int) {
		_, cost := impl.SeenBest(n, seen)
		for i, row := range seen {
			least := slices.Min(row)
			checkSeenBest(t, n, [][]int{row}, least, slices.Index(row, least))
			if len(seen) == 1 {
				continue
			}
			if _, fewer := impl.SeenBest(n, slices.Concat(seen[:i], seen[i+1:])); fewer > cost || fewer < 0 {
				t.Error("without the observation", i, "the best assignment costs", fewer, "not", cost)
			}
		}
	})
}

// P112
func TestExactlyObservedWalkIsPlausible(t *testing.T) {
	eachEnds(t, func(t *testing.T, n impl.Net, from int, to int) {
		w, _ := impl.NearWalk(n, from, to)
		// There are no more observations than SeenMax; a part of a best walk is a best walk too.
		w = w[:min(len(w), impl.SeenMax-1)]
		if len(w) == 0 {
			return
		}
		nodes := impl.WalkNodes(n, w)
		var seen [][]int
		for _, node := range nodes {
			row := slices.Repeat([]int{impl.CostMax}, n.Nodes)
			row[node] = 0
			seen = append(seen, row)
		}
		checkSeenCost(t, n, seen, nodes, impl.WalkCost(n, w))
		if _, cost := impl.SeenBest(n, seen); cost > impl.WalkCost(n, w) || cost < 0 {
			t.Error("the best assignment costs", cost, "and the walk", impl.WalkCost(n, w))
		}
	})
}

package tests

import (
	"math"
	"math/rand/v2"
	"slices"
	"testing"

	"loop.example/waymark/impl"
)

// someMarks are landmarks of n: none, one, all nodes, one of them as often as possible, and arbitrary ones.
func someMarks(r *rand.Rand, n impl.Net) [][]int {
	last := n.Nodes - 1
	return [][]int{
		nil, numbers(r, 1, last), numbers(r, 2, last), upTo(n.Nodes),
		slices.Repeat([]int{last}, impl.NodesMax), numbers(r, impl.NodesMax, last),
	}
}

// eachMarks runs a test for landmarks of every valid graph.
func eachMarks(t *testing.T, test func(t *testing.T, n impl.Net, marks []int)) {
	t.Helper()
	r := source()
	eachNet(t, func(t *testing.T, n impl.Net) {
		for _, marks := range someMarks(r, n) {
			test(t, n, marks)
			if t.Failed() {
				t.Fatal("with the landmarks", marks)
			}
		}
	})
}

// boundByHand is the bound by a table of all distances, one landmark after the other as the document says.
func boundByHand(near [][]int, marks []int, from int, to int) int {
	bound := 0
	for _, mark := range marks {
		for _, two := range [][2]int{{near[mark][to], near[mark][from]}, {near[from][mark], near[to][mark]}} {
			if two[1] == impl.Far {
				continue
			}
			if two[0] == impl.Far {
				return impl.Far
			}
			bound = max(bound, two[0]-two[1])
		}
	}
	return bound
}

// searchByHand is the cost and the number of examined nodes, one round after the other as the document says.
func searchByHand(n impl.Net, near [][]int, marks []int, from int, to int) (int, int) {
	reached, examined := map[int]int{from: 0}, map[int]bool{}
	for {
		next, least := -1, impl.Far
		for node := range n.Nodes {
			cost, ok := reached[node]
			bound := boundByHand(near, marks, node, to)
			if ok && !examined[node] && bound != impl.Far && cost+bound < least {
				next, least = node, cost+bound
			}
		}
		if next == -1 {
			return impl.Far, len(examined)
		}
		examined[next] = true
		if next == to {
			return reached[to], len(examined)
		}
		for _, a := range n.Arcs {
			old, ok := reached[a.To]
			if a.From == next && (!ok || reached[next]+a.Cost < old) {
				reached[a.To] = reached[next] + a.Cost
			}
		}
	}
}

// checkBound expects a bound.
func checkBound(t *testing.T, n impl.Net, marks []int, from int, to int, want int) {
	t.Helper()
	if got := impl.MarkBound(n, marks, from, to); got != want {
		t.Errorf("with the landmarks %v the bound from %d to %d is %d, not %d", marks, from, to, got, want)
	}
}

// checkMarkNear expects a distance and a number of examined nodes.
func checkMarkNear(t *testing.T, n impl.Net, marks []int, from int, to int, cost int, examined int) {
	t.Helper()
	if c, looks := impl.MarkNear(n, marks, from, to); c != cost || looks != examined {
		t.Errorf("with the landmarks %v MarkNear from %d to %d is %d %d, not %d %d", marks, from, to, c, looks, cost, examined)
	}
}

func TestMarkExamples(t *testing.T) {
	n := example()
	checkBound(t, n, nil, 0, 3, 0)
	checkBound(t, n, []int{3}, 0, 1, 5)
	checkBound(t, n, []int{2}, 0, 1, 5)
	checkBound(t, n, []int{2}, 1, 3, 0)
	checkBound(t, n, []int{0}, 1, 3, 5)
	checkBound(t, n, []int{2, 0}, 1, 3, 5)
	checkBound(t, n, []int{3}, 2, 1, 0)
	checkBound(t, n, []int{1}, 2, 2, 0)
	checkMarkNear(t, n, nil, 0, 3, 10, 4)
	checkMarkNear(t, n, nil, 0, 1, 5, 2)
	checkMarkNear(t, n, nil, 2, 2, 0, 1)
	checkInts(t, "no landmarks", impl.MarkPick(n, 0))
	checkInts(t, "one landmark", impl.MarkPick(n, 1), 3)
	checkInts(t, "the landmarks", impl.MarkPick(n, 4), 3, 2, 1, 0)
}

func TestLandmarksSaveExaminedNodes(t *testing.T) {
	// Without landmarks the nodes 3 and 4 away from the goal are examined first.
	n := costs(5, [3]int{0, 1, 4}, [3]int{1, 2, 4}, [3]int{0, 3, 1}, [3]int{3, 4, 1}, [3]int{4, 0, 1}, [3]int{2, 1, 4}, [3]int{1, 0, 4})
	checkMarkNear(t, n, nil, 0, 2, 8, 5)
	checkMarkNear(t, n, []int{2}, 0, 2, 8, 3)
	checkMarkNear(t, n, []int{2, 3}, 0, 2, 8, 3)
}

func TestSmallestOfSeveralNodesIsExamined(t *testing.T) {
	// 1, 2 and the goal cost the same: the smallest comes first.
	low := costs(4, [3]int{1, 3, 2}, [3]int{1, 2, 2}, [3]int{1, 0, 2})
	checkMarkNear(t, low, nil, 1, 0, 2, 2)
	checkMarkNear(t, low, nil, 1, 2, 2, 3)
	checkMarkNear(t, low, nil, 1, 3, 2, 4)
	// Found last, but smaller than what was found before.
	free := costs(4, [3]int{3, 2, 0}, [3]int{3, 1, 0}, [3]int{1, 0, 0})
	checkMarkNear(t, free, nil, 3, 0, 0, 3)
	checkMarkNear(t, free, nil, 3, 2, 0, 4)
}

func TestCheaperWayToAReachedNode(t *testing.T) {
	// 2 is reached at once for 9, then over 1 for 3.
	n := costs(4, [3]int{0, 2, 9}, [3]int{0, 1, 1}, [3]int{1, 2, 2}, [3]int{2, 3, 1}, [3]int{0, 3, 20})
	checkMarkNear(t, n, nil, 0, 3, 4, 4)
	checkMarkNear(t, n, []int{0, 3}, 0, 3, 4, 4)
}

func TestWhatCannotBeReachedFromALandmark(t *testing.T) {
	far := impl.Far
	// 0 and 1 reach each other and 2, which reaches 3; 4 and 5 reach each other alone.
	n := costs(6, [3]int{0, 1, 3}, [3]int{1, 0, 3}, [3]int{1, 2, 5}, [3]int{2, 3, 7}, [3]int{4, 5, 2}, [3]int{5, 4, 2})
	// The landmark reaches the beginning, but not the goal.
	checkBound(t, n, []int{2}, 3, 0, far)
	checkBound(t, n, []int{2}, 2, 1, far)
	checkBound(t, n, []int{0}, 1, 4, far)
	// The goal reaches the landmark, but the beginning does not.
	checkBound(t, n, []int{2}, 4, 0, far)
	checkBound(t, n, []int{3}, 5, 2, far)
	// The landmark reaches the goal, but not the beginning: nothing is known.
	checkBound(t, n, []int{2}, 0, 3, 0)
	checkBound(t, n, []int{1}, 4, 2, 0)
	checkBound(t, n, []int{3}, 0, 3, 15)
	// The beginning reaches the landmark, but the goal does not: nothing is known.
	checkBound(t, n, []int{3}, 0, 4, 0)
	checkBound(t, n, []int{2}, 1, 3, 0)
	checkBound(t, n, []int{1}, 0, 3, 9)
	// The landmark reaches neither, and neither reaches it.
	checkBound(t, n, []int{4}, 0, 2, 0)
	checkBound(t, n, []int{4}, 2, 0, 0)
	checkBound(t, n, []int{4, 2}, 2, 0, far)
	// What cannot be reached is found without examining anything, or after all that is reached.
	checkMarkNear(t, n, []int{4}, 0, 4, far, 0)
	checkMarkNear(t, n, []int{5}, 0, 4, far, 0)
	checkMarkNear(t, n, []int{3}, 0, 4, far, 3)
	checkMarkNear(t, n, nil, 0, 4, far, 4)
	checkMarkNear(t, n, nil, 2, 0, far, 2)
	checkMarkNear(t, n, []int{0}, 2, 0, far, 0)
	checkMarkNear(t, n, []int{4}, 2, 0, far, 2)
	// Away from the goal, 3 has the bound Far and is not examined.
	dead := costs(4, [3]int{0, 3, 1}, [3]int{0, 1, 2}, [3]int{1, 2, 2})
	checkMarkNear(t, dead, nil, 0, 2, 4, 4)
	checkMarkNear(t, dead, []int{3}, 0, 2, 4, 3)
	checkMarkNear(t, dead, []int{1}, 0, 2, 4, 4)
}

func TestPickOfWhatCannotBeReached(t *testing.T) {
	// From node 0 nothing is reached, so that all nodes are equally far.
	checkInts(t, "the landmarks without arcs", impl.MarkPick(impl.Net{Nodes: 3}, 3), 0, 1, 2)
	// From the end of the longest way nothing is reached, so that node 0 comes next.
	checkInts(t, "the landmarks of the longest way", impl.MarkPick(longest(), impl.NodesMax), 7, 0, 6, 5, 4, 3, 2, 1)
	// 2 and 3 are reached from 1 alone, which is not reached from 0.
	n := costs(4, [3]int{1, 2, 9}, [3]int{1, 3, 8}, [3]int{0, 3, 1})
	checkInts(t, "the landmarks", impl.MarkPick(n, 4), 3, 0, 1, 2)
	checkInts(t, "the landmarks", impl.MarkPick(n, 3), 3, 0, 1)
}

func TestPickOfSeveralIsTheSmallestNode(t *testing.T) {
	n := costs(4, [3]int{0, 3, 5}, [3]int{0, 2, 5}, [3]int{0, 1, 5}, [3]int{1, 0, 5}, [3]int{2, 0, 5}, [3]int{3, 0, 5})
	checkInts(t, "the landmarks", impl.MarkPick(n, 4), 1, 2, 3, 0)
	free := costs(3, [3]int{0, 1, 0}, [3]int{1, 2, 0}, [3]int{2, 0, 0})
	checkInts(t, "the landmarks", impl.MarkPick(free, 3), 0, 1, 2)
}

func TestMarksAtTheLimits(t *testing.T) {
	n, last := longest(), impl.NodesMax-1
	full := slices.Repeat([]int{last}, impl.NodesMax)
	checkBound(t, n, full, 0, last, last*impl.CostMax)
	checkBound(t, n, full, last, 0, impl.Far)
	checkMarkNear(t, n, full, 0, last, last*impl.CostMax, impl.NodesMax)
	checkMarkNear(t, n, nil, 0, last, last*impl.CostMax, impl.NodesMax)
	checkInts(t, "the landmarks", impl.MarkPick(largest(), impl.NodesMax), 7, 6, 5, 4, 3, 2, 1, 0)
	one := impl.Net{Nodes: 1}
	checkBound(t, one, make([]int, impl.NodesMax), 0, 0, 0)
	checkMarkNear(t, one, nil, 0, 0, 0, 1)
	checkMarkNear(t, one, []int{0}, 0, 0, 0, 1)
	checkInts(t, "the landmark", impl.MarkPick(one, 1), 0)
}

func TestInvalidMarks(t *testing.T) {
	for _, n := range []impl.Net{example(), {Nodes: 1}, largest()} {
		for _, marks := range invalidLists(n) {
			checkBound(t, n, marks, 0, n.Nodes-1, -1)
			checkBound(t, n, marks, 0, 0, -1)
			checkMarkNear(t, n, marks, 0, n.Nodes-1, -1, -1)
			checkMarkNear(t, n, marks, 0, 0, -1, -1)
		}
		for _, node := range noNodes(n) {
			for _, ends := range [][2]int{{node, 0}, {0, node}, {node, node}} {
				checkBound(t, n, nil, ends[0], ends[1], -1)
				checkBound(t, n, []int{0}, ends[0], ends[1], -1)
				checkMarkNear(t, n, nil, ends[0], ends[1], -1, -1)
				checkMarkNear(t, n, []int{0}, ends[0], ends[1], -1, -1)
			}
		}
		for _, many := range []int{-1, n.Nodes + 1, impl.NodesMax + 1, math.MinInt, math.MaxInt} {
			checkInts(t, "the wrong number of landmarks", impl.MarkPick(n, many))
		}
	}
}

func TestMarksInAnInvalidGraph(t *testing.T) {
	eachInvalidNet(t, func(t *testing.T, n impl.Net) {
		for _, marks := range [][]int{nil, {0}, {0, 1}} {
			checkBound(t, n, marks, 0, 1, -1)
			checkBound(t, n, marks, 0, 0, -1)
			checkMarkNear(t, n, marks, 0, 1, -1, -1)
			checkMarkNear(t, n, marks, 0, 0, -1, -1)
		}
		for _, many := range []int{0, 1, 2, n.Nodes} {
			checkInts(t, "the landmarks", impl.MarkPick(n, many))
		}
	})
}

// P52
func TestLandmarkBoundsAreLowerBounds(t *testing.T) {
	eachMarks(t, func(t *testing.T, n impl.Net, marks []int) {
		near := allNear(n)
		for from := range n.Nodes {
			for to, cost := range near[from] {
				bound := impl.MarkBound(n, marks, from, to)
				if bound > cost || bound < 0 {
					t.Error("the bound from", from, "to", to, "is", bound, "and the distance", cost)
				}
				if slices.Contains(marks, from) && bound != cost {
					t.Error("the bound from the landmark", from, "to", to, "is", bound, "not", cost)
				}
				if len(marks) == 0 && bound != 0 {
					t.Error("without landmarks the bound from", from, "to", to, "is", bound)
				}
				checkBound(t, n, marks, from, to, boundByHand(near, marks, from, to))
			}
		}
	})
}

// P53
func TestLandmarkBoundsAreConsistent(t *testing.T) {
	eachMarks(t, func(t *testing.T, n impl.Net, marks []int) {
		for to := range n.Nodes {
			for _, a := range n.Arcs {
				before, behind := impl.MarkBound(n, marks, a.From, to), impl.MarkBound(n, marks, a.To, to)
				if behind != impl.Far && before > a.Cost+behind {
					t.Error("before", a, "the bound is", before, "and behind it", behind)
				}
			}
		}
	})
}

// P54
func TestSearchWithLandmarksIsExact(t *testing.T) {
	eachMarks(t, func(t *testing.T, n impl.Net, marks []int) {
		near := allNear(n)
		for from := range n.Nodes {
			for to, want := range near[from] {
				cost, examined := impl.MarkNear(n, marks, from, to)
				if cost != want || examined < 0 || examined > n.Nodes {
					t.Error("MarkNear from", from, "to", to, "is", cost, examined, "and the distance", want)
				}
				byHand, looks := searchByHand(n, near, marks, from, to)
				if cost != byHand || examined != looks {
					t.Error("MarkNear from", from, "to", to, "is", cost, examined, "not", byHand, looks)
				}
			}
		}
	})
}

// apart is, for each node, the distance from the nearest of some nodes, or 0 if none reaches it.
func apart(near [][]int, from []int) []int {
	list := make([]int, len(near))
	for node := range list {
		least := impl.Far
		for _, mark := range from {
			least = min(least, near[mark][node])
		}
		list[node] = least % impl.Far
	}
	return list
}

// P55
func TestLandmarksAreChosenFarApart(t *testing.T) {
	eachNet(t, func(t *testing.T, n impl.Net) {
		near := allNear(n)
		all := impl.MarkPick(n, n.Nodes)
		checkInts(t, "all landmarks in order", slices.Sorted(slices.Values(all)), upTo(n.Nodes)...)
		for many := range n.Nodes {
			checkInts(t, "fewer landmarks", impl.MarkPick(n, many), all[:many]...)
			ahead := all[:many]
			if many == 0 {
				ahead = []int{0}
			}
			costs := apart(near, ahead)
			for node, cost := range costs {
				// Of several, the smallest node is next.
				if chosen := costs[all[many]]; !slices.Contains(all[:many], node) && (cost > chosen || cost == chosen && node < all[many]) {
					t.Error("behind", all[:many], "comes", all[many], "instead of", node)
				}
			}
		}
	})
}

package tests

import (
	"math/rand/v2"
	"slices"
	"testing"

	"loop.example/waymark/impl"
)

// half is one of the two searches of the document.
type half struct {
	reached  map[int]int
	examined map[int]bool
}

// nextOf is the cheapest node that is reached but not examined, the smallest of several, or -1.
func (h half) nextOf(n impl.Net) int {
	next := -1
	for node := n.Nodes - 1; node >= 0; node-- {
		cost, ok := h.reached[node]
		if ok && !h.examined[node] && (next == -1 || cost <= h.reached[next]) {
			next = node
		}
	}
	return next
}

// examine relaxes arcs of a node, given as its neighbours and the costs of getting there.
func (h half) examine(node int, neighbours [][2]int) {
	h.examined[node] = true
	for _, next := range neighbours {
		if old, ok := h.reached[next[0]]; !ok || h.reached[node]+next[1] < old {
			h.reached[next[0]] = h.reached[node] + next[1]
		}
	}
}

// bothByHand is the distance and the number of examined nodes, one round after the other as the document says.
func bothByHand(n impl.Net, from int, to int) (int, int) {
	ahead := half{reached: map[int]int{from: 0}, examined: map[int]bool{}}
	behind := half{reached: map[int]int{to: 0}, examined: map[int]bool{}}
	for {
		least := impl.Far
		for node, cost := range ahead.reached {
			if back, ok := behind.reached[node]; ok {
				least = min(least, cost+back)
			}
		}
		i, k := ahead.nextOf(n), behind.nextOf(n)
		if i == -1 || k == -1 || ahead.reached[i]+behind.reached[k] >= least {
			return least, len(ahead.examined) + len(behind.examined)
		}
		var out, in [][2]int
		for _, a := range n.Arcs {
			if a.From == i {
				out = append(out, [2]int{a.To, a.Cost})
			}
			if a.To == k {
				in = append(in, [2]int{a.From, a.Cost})
			}
		}
		if ahead.reached[i] <= behind.reached[k] {
			ahead.examine(i, out)
		} else {
			behind.examine(k, in)
		}
	}
}

// checkBoth expects a distance and a number of examined nodes.
func checkBoth(t *testing.T, n impl.Net, from int, to int, cost int, examined int) {
	t.Helper()
	if c, looks := impl.BothNear(n, from, to); c != cost || looks != examined {
		t.Errorf("BothNear from %d to %d is %d %d, not %d %d", from, to, c, looks, cost, examined)
	}
}

// checkOverNode expects what it costs over a node.
func checkOverNode(t *testing.T, n impl.Net, from int, to int, over int, want int) {
	t.Helper()
	if got := impl.BothOver(n, from, to, over); got != want {
		t.Errorf("from %d to %d over %d it costs %d, not %d", from, to, over, got, want)
	}
}

func TestBothExamples(t *testing.T) {
	n := example()
	checkBoth(t, n, 0, 3, 10, 3)
	checkBoth(t, n, 2, 3, 1, 1)
	checkBoth(t, n, 0, 1, 5, 1)
	checkBoth(t, n, 3, 1, 7, 2)
	checkOverNode(t, n, 0, 3, 0, 10)
	checkOverNode(t, n, 0, 3, 1, 10)
	checkOverNode(t, n, 0, 3, 2, 10)
	checkOverNode(t, n, 0, 1, 2, 9+8)
	checkOverNode(t, n, 2, 3, 1, 8+5)
}

func TestBothFromANodeToItself(t *testing.T) {
	for _, n := range []impl.Net{example(), {Nodes: 1}, {Nodes: impl.NodesMax}, longest(), largest(), freeRing()} {
		for node := range n.Nodes {
			checkBoth(t, n, node, node, 0, 0)
			checkOverNode(t, n, node, node, node, 0)
		}
	}
	// A way over another node comes back.
	checkOverNode(t, example(), 1, 1, 3, 5+7)
	checkOverNode(t, longest(), 1, 1, 3, impl.Far)
	checkOverNode(t, freeRing(), 1, 1, 0, 0)
}

func TestForwardSearchGoesFirst(t *testing.T) {
	// 1 costs nothing, as the goal does in the backward search, and is examined before the sum ends the search.
	n := costs(3, [3]int{0, 1, 0}, [3]int{0, 2, 5})
	checkBoth(t, n, 0, 2, 5, 2)
	checkBoth(t, impl.NetBack(n), 2, 0, 5, 1)
	// The backward search goes on where it costs less: it has one way to go, and the forward search three.
	star := costs(6, [3]int{0, 1, 4}, [3]int{0, 2, 4}, [3]int{0, 3, 4}, [3]int{1, 4, 1}, [3]int{4, 5, 1})
	checkBoth(t, star, 0, 5, 6, 3)
	checkBoth(t, impl.NetBack(star), 5, 0, 6, 3)
}

func TestSmallestNodeIsExaminedFirst(t *testing.T) {
	// From 2, the nodes 0, 1 and 3 cost 3. The search ends behind that one of them which leads on.
	for node, looks := range map[int]int{0: 3, 1: 4, 3: 5} {
		n := costs(7, [3]int{2, 3, 3}, [3]int{2, 1, 3}, [3]int{2, 0, 3}, [3]int{node, 5, 0}, [3]int{5, 6, 4})
		checkBoth(t, n, 2, 6, 7, looks)
		checkBoth(t, impl.NetBack(n), 6, 2, 7, looks)
	}
}

func TestSearchEndsWhenNothingCanCostLess(t *testing.T) {
	// The direct arc is found at once, but over 1 it may cost less, and does.
	n := costs(3, [3]int{0, 2, 9}, [3]int{0, 1, 4}, [3]int{1, 2, 4})
	checkBoth(t, n, 0, 2, 8, 2)
	// Where both smallest costs add up to as much, nothing else is examined.
	n.Arcs[0].Cost = 4
	checkBoth(t, n, 0, 2, 4, 1)
	n.Arcs[0].Cost = 5
	checkBoth(t, n, 0, 2, 5, 2)
}

func TestBothWhereNothingCanBeReached(t *testing.T) {
	n := longest()
	// The search that has nowhere to go ends both.
	checkBoth(t, n, 1, 0, impl.Far, 2)
	checkBoth(t, n, 6, 2, impl.Far, 3)
	checkBoth(t, impl.Net{Nodes: 2}, 0, 1, impl.Far, 1)
	checkOverNode(t, n, 0, 7, 4, 7*impl.CostMax)
	checkOverNode(t, n, 3, 7, 2, impl.Far)
	checkOverNode(t, n, 0, 3, 4, impl.Far)
	checkOverNode(t, n, 1, 0, 1, impl.Far)
	checkOverNode(t, impl.Net{Nodes: 3}, 0, 1, 2, impl.Far)
}

func TestBothAtTheLimits(t *testing.T) {
	n := largest()
	// Four nodes from the one end, and three from the other.
	checkBoth(t, n, 0, 7, 7*impl.CostMax, 7)
	checkOverNode(t, n, 0, 7, 1, 7*impl.CostMax)
	checkOverNode(t, n, 1, 0, 0, 7*impl.CostMax)
	checkOverNode(t, n, 1, 1, 0, 8*impl.CostMax)
	checkOverNode(t, n, 1, 6, 0, 13*impl.CostMax)
}

func TestBothWithoutANode(t *testing.T) {
	for _, n := range []impl.Net{example(), {Nodes: 1}, largest()} {
		last := n.Nodes - 1
		for _, node := range noNodes(n) {
			checkBoth(t, n, node, 0, -1, -1)
			checkBoth(t, n, last, node, -1, -1)
			checkBoth(t, n, node, node, -1, -1)
			checkOverNode(t, n, node, 0, last, -1)
			checkOverNode(t, n, 0, node, last, -1)
			checkOverNode(t, n, 0, last, node, -1)
			checkOverNode(t, n, node, node, node, -1)
		}
	}
}

func TestBothInAnInvalidGraph(t *testing.T) {
	eachInvalidNet(t, func(t *testing.T, n impl.Net) {
		for _, ends := range [][2]int{{0, 1}, {1, 0}, {0, 0}} {
			checkBoth(t, n, ends[0], ends[1], -1, -1)
			for over := range 2 {
				checkOverNode(t, n, ends[0], ends[1], over, -1)
			}
		}
	})
}

// P85
func TestBidirectionalSearchIsExact(t *testing.T) {
	eachNet(t, func(t *testing.T, n impl.Net) {
		for from, near := range allNear(n) {
			for to, want := range near {
				cost, looks := bothByHand(n, from, to)
				checkBoth(t, n, from, to, cost, looks)
				if cost != want || looks > 2*n.Nodes || from == to && looks != 0 {
					t.Error("from", from, "to", to, "the distance is", want, "and by hand", cost, looks)
				}
			}
		}
	})
}

// P86
func TestDetourCostsNoLess(t *testing.T) {
	eachNet(t, func(t *testing.T, n impl.Net) {
		near := allNear(n)
		for from := range near {
			for to, cost := range near[from] {
				w, _ := impl.NearWalk(n, from, to)
				nodes := impl.WalkNodes(n, w)
				for over := range near {
					got := impl.BothOver(n, from, to, over)
					if got < cost || slices.Contains(nodes, over) && got != cost || got != min(near[from][over]+near[over][to], impl.Far) {
						t.Error("from", from, "to", to, "over", over, "it costs", got, "and the distance is", cost)
					}
				}
			}
		}
	})
}

// P37
func TestUpwardSearchIsExactOverItsMeetingNode(t *testing.T) {
	eachRank(t, func(t *testing.T, n impl.Net, r impl.Rank) {
		for from, near := range allNear(n) {
			for to, want := range near {
				cost, over := impl.RankNear(n, r, from, to)
				if cost != want {
					t.Error("RankNear from", from, "to", to, "is", cost, "and the distance", want)
				}
				if over >= 0 {
					checkOverNode(t, n, from, to, over, cost)
				} else if cost != impl.Far {
					t.Error("from", from, "to", to, "there is no meeting node")
				}
			}
		}
	})
}

// agree expects that all algorithms give the distances between all nodes.
func agree(t *testing.T, r *rand.Rand, n impl.Net, near [][]int) {
	t.Helper()
	rank := impl.RankOf(n, r.Perm(n.Nodes))
	marks := impl.MarkPick(n, r.IntN(n.Nodes+1))
	part := numbers(r, n.Nodes, impl.PartsMax-1)
	table := impl.ManyAll(n, upTo(n.Nodes), upTo(n.Nodes))
	for from := range near {
		for to, want := range near[from] {
			up, _ := impl.RankNear(n, rank, from, to)
			both, _ := impl.BothNear(n, from, to)
			marked, _ := impl.MarkNear(n, marks, from, to)
			over := impl.PartNear(n, part, from, to)
			got := []int{up, both, marked, over, table[from][to]}
			if !slices.Equal(got, slices.Repeat([]int{want}, len(got))) {
				t.Error("from", from, "to", to, "the distances are", got, "not", want)
			}
		}
	}
}

// P103
func TestAllAlgorithmsAgreeOnDistances(t *testing.T) {
	r := source()
	eachNet(t, func(t *testing.T, n impl.Net) {
		agree(t, r, n, allNear(n))
	})
}

// P104
func TestAllAlgorithmsAgreeOnTheCurrentGraph(t *testing.T) {
	r := source()
	eachLive(t, func(t *testing.T, l impl.Live) {
		near := make([][]int, l.Net.Nodes)
		for from := range near {
			for to := range near {
				near[from] = append(near[from], impl.LiveNear(l, from, to))
			}
		}
		agree(t, r, impl.LiveNow(l), near)
	})
}

package tests

import (
	"cmp"
	"math"
	"math/rand/v2"
	"slices"
	"testing"

	"loop.example/waymark/impl"
)

// compareWalks puts walks in the order of cost, number of arcs, and list of arcs.
func compareWalks(n impl.Net, a []int, b []int) int {
	return cmp.Or(sumOf(n, a)-sumOf(n, b), len(a)-len(b), slices.Compare(a, b))
}

// isSimple says whether a walk of at least one arc visits no node twice.
func isSimple(n impl.Net, w []int) bool {
	nodes := impl.WalkNodes(n, w)
	slices.Sort(nodes)
	return len(w) > 0 && len(slices.Compact(nodes)) == len(w)+1
}

// simpleWalks are all walks between two different nodes that visit no node twice, in order.
// It makes the walks of each number of arcs from those with one arc fewer.
func simpleWalks(n impl.Net, from int, to int) [][]int {
	var found [][]int
	walks := [][]int{nil}
	for len(walks) > 0 {
		var longer [][]int
		for _, w := range walks {
			for i, a := range n.Arcs {
				next := slices.Concat(w, []int{i})
				if len(w) == 0 && a.From != from || !impl.WalkOk(n, next) || !isSimple(n, next) {
					continue
				}
				longer = append(longer, next)
				if a.To == to {
					found = append(found, next)
				}
			}
		}
		walks = longer
	}
	slices.SortFunc(found, func(a []int, b []int) int { return compareWalks(n, a, b) })
	return found
}

// someEnds are pairs of different nodes of n.
func someEnds(n impl.Net) [][2]int {
	var ends [][2]int
	for from := range n.Nodes {
		for to := range n.Nodes {
			if from != to {
				ends = append(ends, [2]int{from, to})
			}
		}
	}
	return ends
}

// eachEnds runs a test for all pairs of different nodes of every valid graph.
func eachEnds(t *testing.T, test func(t *testing.T, n impl.Net, from int, to int)) {
	t.Helper()
	eachNet(t, func(t *testing.T, n impl.Net) {
		for _, ends := range someEnds(n) {
			test(t, n, ends[0], ends[1])
			if t.Failed() {
				t.Fatal("from", ends[0], "to", ends[1])
			}
		}
	})
}

// othersByHand are the walks of a list within the limits.
func othersByHand(n impl.Net, walks [][]int, longer int, share int) [][]int {
	var kept [][]int
	for _, w := range walks {
		fits := 100*sumOf(n, w) <= (100+longer)*sumOf(n, walks[0])
		for _, k := range kept {
			both := 0
			for _, arc := range w {
				for _, other := range k {
					if arc == other {
						both += n.Arcs[arc].Cost
					}
				}
			}
			fits = fits && 100*both <= share*sumOf(n, walks[0])
		}
		if fits {
			kept = append(kept, w)
		}
	}
	return kept
}

// checkSome expects walks.
func checkSome(t *testing.T, n impl.Net, from int, to int, most int, want ...[]int) {
	t.Helper()
	if got := impl.SomeWalks(n, from, to, most); !sameTable(got, want) {
		t.Errorf("the first %d walks from %d to %d are %v, not %v", most, from, to, got, want)
	}
}

// checkOthers expects alternative routes.
func checkOthers(t *testing.T, n impl.Net, from int, to int, longer int, share int, want ...[]int) {
	t.Helper()
	if got := impl.SomeOthers(n, from, to, longer, share); !sameTable(got, want) {
		t.Errorf("the alternatives from %d to %d within %d and %d are %v, not %v", from, to, longer, share, got, want)
	}
}

// checkShare expects what two walks share.
func checkShare(t *testing.T, n impl.Net, a []int, b []int, want int) {
	t.Helper()
	if got := impl.SomeShare(n, a, b); got != want {
		t.Errorf("%v and %v share %d, not %d", a, b, got, want)
	}
}

func TestSomeExamples(t *testing.T) {
	n := example()
	checkSome(t, n, 0, 3, 6, []int{0, 1, 3}, []int{2, 3}, []int{0, 5})
	checkSome(t, n, 0, 3, 2, []int{0, 1, 3}, []int{2, 3})
	checkSome(t, n, 3, 1, 6, []int{4, 0})
	checkSome(t, n, 1, 0, 6, []int{1, 3, 4}, []int{5, 4})
	checkShare(t, n, []int{0, 1, 3}, []int{0, 5}, 5)
	checkShare(t, n, []int{0, 1, 3}, []int{3}, 1)
	checkShare(t, n, []int{0, 1}, []int{2, 3}, 0)
	checkShare(t, n, []int{0}, nil, 0)
	checkShare(t, n, nil, []int{0}, 0)
}

func TestWalksThatCostTheSame(t *testing.T) {
	// All cost 6: fewer arcs come first, then the smaller list.
	n := costs(4, [3]int{0, 1, 2}, [3]int{1, 2, 2}, [3]int{2, 3, 2}, [3]int{0, 2, 4}, [3]int{1, 3, 4}, [3]int{0, 3, 6}, [3]int{0, 3, 6})
	checkSome(t, n, 0, 3, 6, []int{5}, []int{6}, []int{0, 4}, []int{3, 2}, []int{0, 1, 2})
	checkSome(t, n, 0, 3, 3, []int{5}, []int{6}, []int{0, 4})
	// A walk that costs one more comes last, though it has fewer arcs.
	n.Arcs[5].Cost = 7
	checkSome(t, n, 0, 3, 6, []int{6}, []int{0, 4}, []int{3, 2}, []int{0, 1, 2}, []int{5})
	// Twins make different walks between the same nodes.
	checkSome(t, twins(), 0, 2, 6, []int{1, 3}, []int{1, 4}, []int{2, 3}, []int{2, 4}, []int{0, 3}, []int{0, 4})
	checkSome(t, twins(), 0, 1, 6, []int{1}, []int{2}, []int{0})
	// Arcs that cost nothing may lead round a ring, but a node is visited once.
	checkSome(t, freeRing(), 3, 4, 6, []int{0, 5}, []int{0, 1, 2, 4})
	checkSome(t, freeRing(), 1, 4, 6, []int{2, 4}, []int{2, 3, 5})
	// The smaller list is decided by its first arc.
	first := costs(4, [3]int{2, 3, 1}, [3]int{0, 1, 1}, [3]int{0, 2, 1}, [3]int{1, 3, 1})
	checkSome(t, first, 0, 3, 6, []int{1, 3}, []int{2, 0})
}

func TestWalksDoNotPassTheirEnds(t *testing.T) {
	// 1 and 2 can be left again, but a walk that comes back to one of them visits it twice.
	n := costs(3, [3]int{0, 1, 1}, [3]int{1, 0, 1}, [3]int{1, 2, 1}, [3]int{2, 1, 1}, [3]int{2, 0, 1}, [3]int{0, 2, 9})
	checkSome(t, n, 0, 1, 6, []int{0}, []int{5, 3})
	checkSome(t, n, 0, 2, 6, []int{0, 2}, []int{5})
	checkSome(t, n, 1, 2, 6, []int{2}, []int{1, 5})
}

func TestAllWalksButThoseBehindTheLimit(t *testing.T) {
	// 27 walks over three twins, the cheapest six of which differ.
	n := impl.Net{Nodes: 4}
	for node := range 3 {
		for twin := range 3 {
			n.Arcs = append(n.Arcs, impl.Arc{From: node, To: node + 1, Cost: twin * (node + 1)})
		}
	}
	want := [][]int{{0, 3, 6}, {1, 3, 6}, {0, 4, 6}, {2, 3, 6}, {0, 3, 7}, {1, 4, 6}}
	for most := 1; most <= impl.SomeMax; most++ {
		checkSome(t, n, 0, 3, most, want[:most]...)
	}
	// Eight nodes in a ring with twins: one arc or the other each time, all at the same cost.
	ring := largest()
	checkSome(t, ring, 0, 7, 2, []int{0, 1, 2, 3, 4, 5, 6}, []int{0, 1, 2, 3, 4, 5, 14})
	if got := len(impl.SomeWalks(ring, 0, 7, impl.SomeMax)); got != impl.SomeMax {
		t.Error("there are", got, "walks")
	}
}

func TestSomeWithoutAWalk(t *testing.T) {
	checkSome(t, longest(), 7, 0, 6)
	checkOthers(t, longest(), 7, 0, 200, 100)
	checkSome(t, longest(), 0, 7, 6, []int{0, 1, 2, 3, 4, 5, 6})
	checkOthers(t, longest(), 0, 7, 0, 0, []int{0, 1, 2, 3, 4, 5, 6})
	checkSome(t, impl.Net{Nodes: 2}, 0, 1, 6)
	checkOthers(t, impl.Net{Nodes: 2}, 0, 1, 0, 0)
}

func TestShareCountsArcsOfTheFirstWalk(t *testing.T) {
	n := example()
	round := []int{0, 1, 3, 4, 0}
	checkShare(t, n, round, []int{0}, 10)
	checkShare(t, n, []int{0}, round, 5)
	checkShare(t, n, round, round, 17)
	checkShare(t, n, round, []int{4, 0, 5}, 12)
	checkShare(t, n, []int{4, 0, 5}, round, 7)
	checkShare(t, n, nil, nil, 0)
	// Twins are different arcs.
	checkShare(t, twins(), []int{1, 3}, []int{2, 3}, 4)
	longNet, long := longWalk(impl.WalkMax)
	checkShare(t, longNet, long, []int{0}, 10*impl.CostMax)
	checkShare(t, longNet, long, long, 1000)
	tooLongNet, tooLong := longWalk(impl.WalkMax + 1)
	checkShare(t, tooLongNet, tooLong, []int{0}, -1)
	checkShare(t, tooLongNet, []int{0}, tooLong, -1)
}

func TestOthersAtTheLimits(t *testing.T) {
	n := example()
	best, second, third := []int{0, 1, 3}, []int{2, 3}, []int{0, 5}
	// They cost 10, 13 and 14; the second one shares 1 with the best, the third one 5.
	checkOthers(t, n, 0, 3, 29, 100, best)
	checkOthers(t, n, 0, 3, 30, 100, best, second)
	checkOthers(t, n, 0, 3, 39, 100, best, second)
	checkOthers(t, n, 0, 3, 40, 100, best, second, third)
	checkOthers(t, n, 0, 3, 200, 9, best)
	checkOthers(t, n, 0, 3, 200, 10, best, second)
	checkOthers(t, n, 0, 3, 200, 49, best, second)
	checkOthers(t, n, 0, 3, 200, 50, best, second, third)
	checkOthers(t, n, 0, 3, 0, 0, best)
	checkOthers(t, n, 0, 3, 200, 100, best, second, third)
	// Exactly three times the cost is within 200, one more is not.
	long := costs(2, [3]int{0, 1, 33}, [3]int{0, 1, 99})
	checkOthers(t, long, 0, 1, 200, 0, []int{0}, []int{1})
	checkOthers(t, long, 0, 1, 199, 0, []int{0})
	long.Arcs[0].Cost = 32
	checkOthers(t, long, 0, 1, 200, 0, []int{0})
}

func TestOthersAreComparedWithWhatIsKept(t *testing.T) {
	n := costs(3, [3]int{0, 1, 50}, [3]int{1, 2, 50}, [3]int{1, 2, 51}, [3]int{0, 1, 60})
	best, second, third, fourth := []int{0, 1}, []int{0, 2}, []int{3, 1}, []int{3, 2}
	checkSome(t, n, 0, 2, 6, best, second, third, fourth)
	// The fourth shares nothing with the best, and 51 with the second, which counts only if that is kept.
	checkOthers(t, n, 0, 2, 200, 49, best, fourth)
	checkOthers(t, n, 0, 2, 200, 50, best, second, third)
	checkOthers(t, n, 0, 2, 200, 59, best, second, third)
	checkOthers(t, n, 0, 2, 200, 60, best, second, third, fourth)
	// A walk that is too long is not kept either.
	checkOthers(t, n, 0, 2, 10, 60, best, second, third)
	checkOthers(t, n, 0, 2, 9, 60, best, second)
	checkOthers(t, n, 0, 2, 0, 60, best)
}

func TestOthersIfTheBestWalkCostsNothing(t *testing.T) {
	// Whatever costs nothing is within the limits, and shares nothing that costs anything.
	n := costs(3, [3]int{0, 1, 0}, [3]int{1, 2, 0}, [3]int{1, 2, 0}, [3]int{0, 2, 0}, [3]int{0, 2, 1})
	checkSome(t, n, 0, 2, 6, []int{3}, []int{0, 1}, []int{0, 2}, []int{4})
	checkOthers(t, n, 0, 2, 0, 0, []int{3}, []int{0, 1}, []int{0, 2})
	checkOthers(t, n, 0, 2, 200, 100, []int{3}, []int{0, 1}, []int{0, 2})
}

func TestOthersComeFromTheFirstWalksAlone(t *testing.T) {
	// The first six walks begin with arc 0; the seventh shares nothing with them.
	n := impl.Net{Nodes: 3, Arcs: []impl.Arc{{From: 0, To: 1, Cost: 50}}}
	for cost := range 6 {
		n.Arcs = append(n.Arcs, impl.Arc{From: 1, To: 2, Cost: cost})
	}
	n.Arcs = append(n.Arcs, impl.Arc{From: 0, To: 2, Cost: 90})
	checkOthers(t, n, 0, 2, 200, 50, []int{0, 1})
	n.Arcs[7].Cost = 54
	checkOthers(t, n, 0, 2, 200, 50, []int{0, 1}, []int{7})
}

// checkNoWalks expects the fixed results where there is nothing to search for.
func checkNoWalks(t *testing.T, n impl.Net, from int, to int) {
	t.Helper()
	for _, most := range []int{1, impl.SomeMax, 0, -1} {
		checkSome(t, n, from, to, most)
	}
	for _, limit := range []int{0, 100, -1} {
		checkOthers(t, n, from, to, limit, limit)
	}
}

func TestSomeWithoutANodeOrTwoDifferentOnes(t *testing.T) {
	for _, n := range []impl.Net{example(), {Nodes: 1}, largest(), freeRing()} {
		for _, node := range noNodes(n) {
			checkNoWalks(t, n, node, 0)
			checkNoWalks(t, n, 0, node)
			checkNoWalks(t, n, node, node)
		}
		for node := range n.Nodes {
			checkNoWalks(t, n, node, node)
		}
	}
}

func TestInvalidNumbersOfWalks(t *testing.T) {
	for _, n := range []impl.Net{example(), largest()} {
		for _, most := range []int{0, -1, impl.SomeMax + 1, math.MinInt, math.MaxInt} {
			checkSome(t, n, 0, 3, most)
		}
		for _, wrong := range []int{-1, math.MinInt, math.MaxInt} {
			checkOthers(t, n, 0, 3, wrong, 50)
			checkOthers(t, n, 0, 3, 50, wrong)
			checkOthers(t, n, 0, 3, wrong, wrong)
		}
		checkOthers(t, n, 0, 3, 201, 50)
		checkOthers(t, n, 0, 3, 50, 101)
	}
}

func TestShareOfWhatIsNoWalk(t *testing.T) {
	n := example()
	for _, w := range noWalks(n) {
		checkShare(t, n, w, []int{0, 1, 3}, -1)
		checkShare(t, n, []int{0, 1, 3}, w, -1)
		checkShare(t, n, w, nil, -1)
		checkShare(t, n, nil, w, -1)
		checkShare(t, n, w, w, -1)
	}
}

func TestSomeInAnInvalidGraph(t *testing.T) {
	eachInvalidNet(t, func(t *testing.T, n impl.Net) {
		checkNoWalks(t, n, 0, 1)
		checkNoWalks(t, n, 1, 0)
		checkNoWalks(t, n, 0, 0)
		for _, w := range [][]int{nil, {0}, {1}} {
			checkShare(t, n, w, []int{0}, -1)
			checkShare(t, n, []int{0}, w, -1)
			checkShare(t, n, w, nil, -1)
		}
	})
}

// P14
func TestBestWalkIsTheFirstOfSomeWalks(t *testing.T) {
	eachEnds(t, func(t *testing.T, n impl.Net, from int, to int) {
		best, ok := impl.NearWalk(n, from, to)
		if ok {
			checkSome(t, n, from, to, 1, best)
		} else {
			checkSome(t, n, from, to, 1)
		}
	})
}

// P60
func TestSomeWalksAreSimpleAndOrdered(t *testing.T) {
	eachEnds(t, func(t *testing.T, n impl.Net, from int, to int) {
		walks := impl.SomeWalks(n, from, to, impl.SomeMax)
		for i, w := range walks {
			nodes := impl.WalkNodes(n, w)
			if !isSimple(n, w) || nodes[0] != from || nodes[len(w)] != to {
				t.Fatal(w, "is no simple walk")
			}
			if i > 0 && compareWalks(n, walks[i-1], w) >= 0 {
				t.Error(walks[i-1], "comes before", w)
			}
		}
		if best, ok := impl.NearWalk(n, from, to); ok != (len(walks) > 0) || ok && !slices.Equal(walks[0], best) {
			t.Error("the walks are", walks, "but the best one is", best, ok)
		}
	})
}

// P61
func TestFewerAlternativesAreAPrefix(t *testing.T) {
	eachEnds(t, func(t *testing.T, n impl.Net, from int, to int) {
		walks := impl.SomeWalks(n, from, to, impl.SomeMax)
		for most := 1; most < impl.SomeMax; most++ {
			checkSome(t, n, from, to, most, walks[:min(most, len(walks))]...)
		}
	})
}

// P62
func TestNoSimpleWalkIsMissed(t *testing.T) {
	eachWalk(t, func(t *testing.T, n impl.Net, w []int) {
		plain := impl.WalkPlain(n, w)
		if len(plain) == 0 {
			return
		}
		nodes := impl.WalkNodes(n, plain)
		walks := impl.SomeWalks(n, nodes[0], nodes[len(plain)], impl.SomeMax)
		among := slices.ContainsFunc(walks, func(s []int) bool { return slices.Equal(s, plain) })
		if !among && (len(walks) < impl.SomeMax || compareWalks(n, walks[impl.SomeMax-1], plain) > 0) {
			t.Error(plain, "is not among", walks)
		}
	})
}

func TestSomeWalksAgreeWithAllSimpleWalks(t *testing.T) {
	many := 0
	eachEnds(t, func(t *testing.T, n impl.Net, from int, to int) {
		all := simpleWalks(n, from, to)
		checkSome(t, n, from, to, impl.SomeMax, all[:min(impl.SomeMax, len(all))]...)
		if len(all) > impl.SomeMax {
			many++
		}
	})
	if many < 100 {
		t.Error("only", many, "pairs of nodes have more walks than are told")
	}
}

// P63
func TestWalkSharesItself(t *testing.T) {
	r := source()
	eachWalk(t, func(t *testing.T, n impl.Net, w []int) {
		checkShare(t, n, w, w, impl.WalkCost(n, w))
		for range 3 {
			other := wander(r, n, r.IntN(n.Nodes), r.IntN(impl.WalkMax+1))
			sum := impl.SomeShare(n, w, other)
			for at := range len(w) + 1 {
				if parts := impl.SomeShare(n, w[:at], other) + impl.SomeShare(n, w[at:], other); parts != sum {
					t.Error(w, "shares", sum, "with", other, "but its parts", parts)
				}
			}
			checkShare(t, n, other, other, impl.WalkCost(n, other))
		}
	})
}

// someLimits are limits for length and sharing: the smallest, the largest, and arbitrary ones.
func someLimits(r *rand.Rand) [][2]int {
	return [][2]int{{0, 0}, {200, 0}, {0, 100}, {200, 100}, {r.IntN(201), r.IntN(101)}, {r.IntN(60), r.IntN(60)}}
}

// P64
func TestSelectedAlternativesSatisfyTheLimits(t *testing.T) {
	r := source()
	eachEnds(t, func(t *testing.T, n impl.Net, from int, to int) {
		walks := impl.SomeWalks(n, from, to, impl.SomeMax)
		for _, limits := range someLimits(r) {
			longer, share := limits[0], limits[1]
			kept := impl.SomeOthers(n, from, to, longer, share)
			for i, w := range kept {
				if impl.WalkCost(n, w)*100 > impl.WalkCost(n, walks[0])*(100+longer) {
					t.Error(w, "is too long for", limits)
				}
				for _, k := range kept[:i] {
					if impl.SomeShare(n, w, k)*100 > impl.WalkCost(n, walks[0])*share {
						t.Error(w, "shares too much with", k, "for", limits)
					}
				}
			}
			checkOthers(t, n, from, to, longer, share, othersByHand(n, walks, longer, share)...)
		}
	})
}

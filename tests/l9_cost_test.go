package tests

import (
	"math"
	"math/rand/v2"
	"slices"
	"testing"

	"loop.example/waymark/impl"
)

// costsIn are the costs of the arcs of n.
func costsIn(n impl.Net) []int {
	var list []int
	for _, a := range n.Arcs {
		list = append(list, a.Cost)
	}
	return list
}

// tollsIn are the tolls of the arcs of n.
func tollsIn(n impl.Net) []int {
	var list []int
	for _, a := range n.Arcs {
		list = append(list, a.Toll)
	}
	return list
}

// numbers are so many arbitrary numbers up to most.
func numbers(r *rand.Rand, many int, most int) []int {
	list := make([]int, many)
	for i := range list {
		list[i] = r.IntN(most + 1)
	}
	return list
}

// invalidNumbers are lists that do not have one number in 0..most for each of so many things, at least one.
func invalidNumbers(many int, most int) map[string][]int {
	lists := map[string][]int{
		"nothing":      nil,
		"one too few":  make([]int, many-1),
		"one too many": make([]int, many+1),
	}
	for name, number := range map[string]int{"negative": -1, "too large": most + 1, "smallest": math.MinInt, "largest": math.MaxInt} {
		first, last := make([]int, many), make([]int, many)
		first[0], last[many-1] = number, number
		lists[name+" first"], lists[name+" last"] = first, last
	}
	return lists
}

// someMetrics are metrics of n, its own costs first.
func someMetrics(r *rand.Rand, n impl.Net) [][]int {
	many := len(n.Arcs)
	return [][]int{
		costsIn(n), tollsIn(n), make([]int, many), slices.Repeat([]int{impl.CostMax}, many),
		numbers(r, many, 1), numbers(r, many, 5), numbers(r, many, impl.CostMax),
	}
}

// someHeights are potentials of the nodes of n, with which costs may become negative or too large.
func someHeights(r *rand.Rand, n impl.Net) [][]int {
	heights := [][]int{
		make([]int, n.Nodes), slices.Repeat([]int{impl.CostMax}, n.Nodes),
		numbers(r, n.Nodes, 1), numbers(r, n.Nodes, 5), numbers(r, n.Nodes, impl.CostMax),
	}
	for to := range n.Nodes {
		// With distances to a node no cost becomes negative.
		near := impl.NearTo(n, to)
		for i := range near {
			near[i] = min(near[i], impl.CostMax)
		}
		heights = append(heights, near)
	}
	return heights
}

// weighted is the cost of an arc with weights: the largest number that is not more, counted up.
func weighted(a impl.Arc, cost int, toll int) int {
	number := 0
	for number < impl.CostMax && 100*(number+1) <= a.Cost*cost+a.Toll*toll {
		number++
	}
	return number
}

// checkNoCostNet expects that there is no graph with these costs.
func checkNoCostNet(t *testing.T, n impl.Net, metric []int) {
	t.Helper()
	if got, ok := impl.CostNet(n, metric); ok || !sameNet(got, impl.Net{}) {
		t.Error("CostNet is", got, ok)
	}
}

// checkNoCostRank expects that there is no customized hierarchy.
func checkNoCostRank(t *testing.T, n impl.Net, r impl.Rank, metric []int) {
	t.Helper()
	if got, many := impl.CostRank(n, r, metric); many != -1 || !sameRank(got, impl.Rank{}) {
		t.Error("CostRank is", got, many)
	}
}

// checkNoLift expects that potentials give no metric.
func checkNoLift(t *testing.T, n impl.Net, high []int) {
	t.Helper()
	if got, ok := impl.CostLift(n, high); ok || len(got) != 0 {
		t.Error("CostLift is", got, ok)
	}
}

// checkLift expects the metric that potentials give.
func checkLift(t *testing.T, n impl.Net, high []int, want ...int) {
	t.Helper()
	if got, ok := impl.CostLift(n, high); !ok || !slices.Equal(got, want) {
		t.Error("CostLift is", got, ok, "not", want)
	}
}

func TestCostExamples(t *testing.T) {
	n := example()
	checkInts(t, "the metric", impl.CostOf(n, 50, 100), 2, 4, 6, 0, 1, 5)
	checkInts(t, "the metric", impl.CostOf(n, 0, 0), 0, 0, 0, 0, 0, 0)
	checkLift(t, n, []int{10, 5, 1, 0}, 0, 0, 3, 0, 12, 4)
	// One more, and the first arc would cost less than nothing.
	checkNoLift(t, n, []int{11, 5, 1, 0})
	changed, ok := impl.CostNet(n, []int{9, 8, 7, 6, 5, 4})
	if !ok {
		t.Fatal("CostNet fails")
	}
	checkInts(t, "the new costs", costsIn(changed), 9, 8, 7, 6, 5, 4)
	r := impl.RankOf(n, []int{1, 2, 0, 3})
	x, many := impl.CostRank(n, r, []int{5, 9, 12, 1, 2, 9})
	if many != 3 || x.Cost[0][2] != 12 || x.Over[0][2] != -1 || x.Cost[0][3] != 13 || x.Over[0][3] != 2 || x.Cost[1][2] != 9 {
		t.Error("the customized hierarchy is", x, many)
	}
}

func TestWeightsAtTheLimits(t *testing.T) {
	n := largest()
	checkInts(t, "the metric", impl.CostOf(n, 100, 100), slices.Repeat([]int{impl.CostMax}, impl.ArcsMax)...)
	// A sum of 99.99 and one of 100 are both at most CostMax.
	n = impl.Net{Nodes: 2, Arcs: []impl.Arc{{From: 0, To: 1, Cost: 99, Toll: 1}, {From: 0, To: 1, Cost: 99, Toll: 0}, {From: 1, To: 0, Cost: 1, Toll: 99}}}
	checkInts(t, "the metric", impl.CostOf(n, 100, 99), 99, 99, 99)
	checkInts(t, "the metric", impl.CostOf(n, 99, 100), 99, 98, 99)
	for _, weight := range []int{-1, 101, math.MinInt, math.MaxInt} {
		checkInts(t, "with a wrong weight of Cost, the metric", impl.CostOf(n, weight, 50))
		checkInts(t, "with a wrong weight of Toll, the metric", impl.CostOf(n, 50, weight))
	}
	checkInts(t, "without arcs, the metric", impl.CostOf(impl.Net{Nodes: 1}, 100, 100))
}

func TestLiftAtTheLimits(t *testing.T) {
	n := costs(2, [3]int{0, 1, 60}, [3]int{1, 0, 39})
	checkLift(t, n, []int{60, 0}, 0, 99)
	checkNoLift(t, n, []int{61, 0})
	n.Arcs[1].Cost = 40
	// Arc 0 would cost 0, but arc 1 costs 100.
	checkNoLift(t, n, []int{60, 0})
	checkLift(t, n, []int{99, 40}, 1, 99)
	checkLift(t, n, []int{0, 0}, 60, 40)
	checkLift(t, n, []int{impl.CostMax, impl.CostMax}, 60, 40)
	checkNoLift(t, n, []int{impl.CostMax + 1, impl.CostMax + 1})
	checkNoLift(t, n, []int{-1, -1})
	checkLift(t, impl.Net{Nodes: 2}, []int{0, impl.CostMax})
}

func TestInvalidMetrics(t *testing.T) {
	for _, n := range []impl.Net{example(), largest(), twins()} {
		r := impl.RankOf(n, upTo(n.Nodes))
		for name, metric := range invalidNumbers(len(n.Arcs), impl.CostMax) {
			t.Run(name, func(t *testing.T) {
				checkNoCostNet(t, n, metric)
				checkNoCostRank(t, n, r, metric)
			})
		}
		for name, high := range invalidNumbers(n.Nodes, impl.CostMax) {
			t.Run("height: "+name, func(t *testing.T) { checkNoLift(t, n, high) })
		}
		for name, rank := range invalidRanks(n, r) {
			t.Run("hierarchy: "+name, func(t *testing.T) { checkNoCostRank(t, n, rank, costsIn(n)) })
		}
	}
	checkNoCostNet(t, impl.Net{Nodes: 2}, []int{0})
	checkNoCostRank(t, impl.Net{Nodes: 2}, impl.RankOf(impl.Net{Nodes: 2}, []int{0, 1}), []int{0})
}

func TestCostsInAnInvalidGraph(t *testing.T) {
	r := impl.RankOf(example(), upTo(4))
	eachInvalidNet(t, func(t *testing.T, n impl.Net) {
		for _, metric := range [][]int{nil, make([]int, len(n.Arcs)), costsIn(n)} {
			checkNoCostNet(t, n, metric)
			checkNoCostRank(t, n, r, metric)
			checkNoCostRank(t, n, impl.Rank{}, metric)
		}
		checkInts(t, "the metric", impl.CostOf(n, 100, 0))
		checkNoLift(t, n, nil)
		checkNoLift(t, n, []int{0, 0, 0, 0})
	})
}

// P41
func TestNewMetricKeepsTheArcs(t *testing.T) {
	r := source()
	eachNet(t, func(t *testing.T, n impl.Net) {
		for _, metric := range someMetrics(r, n) {
			got, ok := impl.CostNet(n, metric)
			if !ok || got.Nodes != n.Nodes || len(got.Arcs) != len(n.Arcs) {
				t.Fatal("CostNet is", got, ok)
			}
			for i, a := range n.Arcs {
				a.Cost = metric[i]
				if got.Arcs[i] != a {
					t.Error("the arc", i, "becomes", got.Arcs[i], "not", a)
				}
			}
		}
		if got, ok := impl.CostNet(n, costsIn(n)); !ok || !sameNet(got, n) {
			t.Error("with its own costs the graph is", got, ok)
		}
	})
}

// P42
func TestWeightsCombineCostAndToll(t *testing.T) {
	eachNet(t, func(t *testing.T, n impl.Net) {
		checkInts(t, "with Cost alone, the metric", impl.CostOf(n, 100, 0), costsIn(n)...)
		checkInts(t, "with Toll alone, the metric", impl.CostOf(n, 0, 100), tollsIn(n)...)
		both := impl.CostOf(n, 100, 100)
		for _, weights := range [][2]int{{100, 100}, {0, 0}, {100, 99}, {1, 0}, {0, 1}, {50, 50}, {33, 67}, {7, 100}} {
			var want []int
			for _, a := range n.Arcs {
				want = append(want, weighted(a, weights[0], weights[1]))
			}
			checkInts(t, "the metric", impl.CostOf(n, weights[0], weights[1]), want...)
		}
		for i, a := range n.Arcs {
			if both[i] < a.Cost || both[i] < a.Toll {
				t.Error("with both, the arc", a, "costs", both[i])
			}
		}
	})
}

// liftedByHand are the costs with potentials, and whether they are a metric.
func liftedByHand(n impl.Net, high []int) ([]int, bool) {
	var list []int
	for _, a := range n.Arcs {
		cost := a.Cost + high[a.To] - high[a.From]
		if cost < 0 || cost > impl.CostMax {
			return nil, false
		}
		list = append(list, cost)
	}
	return list, true
}

// P43
func TestPotentialsPreserveShortestPaths(t *testing.T) {
	r := source()
	lifted := 0
	eachNet(t, func(t *testing.T, n impl.Net) {
		for _, high := range someHeights(r, n) {
			want, valid := liftedByHand(n, high)
			got, ok := impl.CostLift(n, high)
			if ok != valid || !slices.Equal(got, want) {
				t.Fatal("with the potentials", high, "the metric is", got, ok, "not", want)
			}
			if ok && !slices.Equal(got, costsIn(n)) {
				lifted++
				checkLifted(t, n, got, high)
			}
		}
	})
	if lifted < 200 {
		t.Error("only", lifted, "metrics are tested")
	}
}

// checkLifted expects that all distances have changed by the potentials alone.
func checkLifted(t *testing.T, n impl.Net, metric []int, high []int) {
	t.Helper()
	changed, _ := impl.CostNet(n, metric)
	for from, near := range allNear(n) {
		got := impl.NearAll(changed, from)
		for to, cost := range near {
			want := impl.Far
			if cost != impl.Far {
				want = cost - high[from] + high[to]
			}
			if got[to] != want {
				t.Error("with the potentials", high, "the distance from", from, "to", to, "is", got[to], "not", want)
			}
		}
	}
}

// P44
func TestCustomizingEqualsRebuilding(t *testing.T) {
	source := source()
	eachRank(t, func(t *testing.T, n impl.Net, r impl.Rank) {
		for i, metric := range someMetrics(source, n) {
			changed, _ := impl.CostNet(n, metric)
			want := impl.RankOf(changed, r.Order)
			got, many := impl.CostRank(n, r, metric)
			if !sameRank(got, want) {
				t.Error("with the costs", metric, "the hierarchy is", got, "not", want)
			}
			others := 0
			for k, cost := range slices.Concat(want.Cost...) {
				if cost != slices.Concat(r.Cost...)[k] {
					others++
				}
			}
			if many != others || i == 0 && many != 0 {
				t.Error("with the costs", metric, "there are", many, "changes, not", others)
			}
		}
	})
}

package tests

import (
	"math"
	"math/rand/v2"
	"slices"
	"testing"

	"loop.example/waymark/impl"
)

// someStops are lists of different nodes of n, one of each possible length.
func someStops(r *rand.Rand, n impl.Net) [][]int {
	var lists [][]int
	for many := 1; many <= min(impl.TourMax, n.Nodes); many++ {
		lists = append(lists, r.Perm(n.Nodes)[:many])
	}
	return lists
}

// invalidStops are lists that are not stops in n.
func invalidStops(n impl.Net) [][]int {
	lists := [][]int{nil, {}, {0, 0}, {n.Nodes - 1, n.Nodes - 1}, make([]int, impl.TourMax), upTo(impl.TourMax + 1), upTo(impl.NodesMax), upTo(100)}
	for _, node := range noNodes(n) {
		lists = append(lists, []int{node}, []int{0, node}, []int{node, 0}, []int{node, node})
	}
	if n.Nodes > 2 {
		lists = append(lists, []int{0, 1, 0}, []int{1, 0, 0}, []int{2, 1, 2, 0}, []int{2, 1, 1})
	}
	return lists
}

// eachStops runs a test for stops in every valid graph, with a table of all distances.
func eachStops(t *testing.T, test func(t *testing.T, n impl.Net, near [][]int, stops []int)) {
	t.Helper()
	r := source()
	eachNet(t, func(t *testing.T, n impl.Net) {
		near := allNear(n)
		for _, stops := range someStops(r, n) {
			test(t, n, near, stops)
			if t.Failed() {
				t.Error("with the stops", stops)
				return
			}
		}
	})
}

// tourByHand is the cost of a round trip by a table of all distances.
func tourByHand(near [][]int, stops []int) int {
	sum := near[stops[len(stops)-1]][stops[0]]
	for i := 1; i < len(stops); i++ {
		sum += near[stops[i-1]][stops[i]]
	}
	return min(sum, impl.Far)
}

// ordersOf are all orders of stops that begin with the first one. It counts lists of positions up
// like numbers whose digits they are, and takes those in which each position occurs once.
func ordersOf(stops []int) [][]int {
	var orders [][]int
	many := len(stops)
	for number := range int(math.Pow(float64(many), float64(many-1))) {
		positions := make([]int, many)
		for i := many - 1; i > 0; i-- {
			positions[i] = number % many
			number /= many
		}
		if !slices.Equal(slices.Sorted(slices.Values(positions)), upTo(many)) {
			continue
		}
		var order []int
		for _, position := range positions {
			order = append(order, stops[position])
		}
		orders = append(orders, order)
	}
	return orders
}

// checkTour expects the cost of a round trip.
func checkTour(t *testing.T, n impl.Net, stops []int, want int) {
	t.Helper()
	if got := impl.TourCost(n, stops); got != want {
		t.Errorf("the tour %v costs %d, not %d", stops, got, want)
	}
}

// checkTourBest expects the best order of stops.
func checkTourBest(t *testing.T, n impl.Net, stops []int, cost int, want ...int) {
	t.Helper()
	if got, c := impl.TourBest(n, stops); c != cost || !slices.Equal(got, want) {
		t.Errorf("the best tour of %v is %v %d, not %v %d", stops, got, c, want, cost)
	}
}

// checkTourNear expects the nearest-neighbour tour.
func checkTourNear(t *testing.T, n impl.Net, stops []int, want ...int) {
	t.Helper()
	checkInts(t, "the nearest-neighbour tour", impl.TourNear(n, stops), want...)
}

func TestTourExamples(t *testing.T) {
	n := example()
	checkTour(t, n, []int{0, 1, 2, 3}, 5+4+1+2)
	checkTour(t, n, []int{0, 3, 2, 1}, 10+11+8+7)
	checkTour(t, n, []int{1, 3}, 5+7)
	checkTourBest(t, n, []int{0, 3, 2, 1}, 12, 0, 1, 2, 3)
	checkTourBest(t, n, []int{3, 2, 1}, 12, 3, 1, 2)
	checkTourBest(t, n, []int{1, 3}, 12, 1, 3)
	checkTourNear(t, n, []int{0, 3, 2, 1}, 0, 1, 2, 3)
	checkTourNear(t, n, []int{2, 1, 0, 3}, 2, 3, 0, 1)
	// The nearest neighbour is not always on the best tour.
	greedy := costs(4, [3]int{0, 1, 1}, [3]int{1, 2, 9}, [3]int{2, 3, 1}, [3]int{3, 0, 9}, [3]int{0, 2, 2}, [3]int{3, 1, 1}, [3]int{1, 0, 1})
	checkTourNear(t, greedy, []int{0, 1, 2, 3}, 0, 1, 2, 3)
	checkTourBest(t, greedy, []int{0, 1, 2, 3}, 5, 0, 2, 3, 1)
}

func TestTourOfOneStop(t *testing.T) {
	for _, n := range []impl.Net{example(), {Nodes: 1}, {Nodes: impl.NodesMax}, longest(), largest(), freeRing()} {
		for node := range n.Nodes {
			checkTour(t, n, []int{node}, 0)
			checkTourBest(t, n, []int{node}, 0, node)
			checkTourNear(t, n, []int{node}, node)
		}
	}
}

func TestToursThatCostTheSame(t *testing.T) {
	// Around a ring that costs nothing, every order is as good.
	n := costs(5, [3]int{0, 1, 0}, [3]int{1, 2, 0}, [3]int{2, 3, 0}, [3]int{3, 4, 0}, [3]int{4, 0, 0})
	for _, stops := range [][]int{{0, 1, 2, 3, 4}, {4, 3, 2, 1, 0}, {2, 4, 0, 3, 1}, {3, 0}} {
		checkTourBest(t, n, stops, 0, stops...)
		checkTourNear(t, n, stops, stops...)
	}
	// Positions decide, not nodes: 3 comes before 1 in the list.
	both := costs(4, [3]int{0, 1, 4}, [3]int{1, 0, 4}, [3]int{0, 2, 4}, [3]int{2, 0, 4}, [3]int{0, 3, 4}, [3]int{3, 0, 4})
	checkTourBest(t, both, []int{0, 3, 1, 2}, 24, 0, 3, 1, 2)
	checkTourNear(t, both, []int{0, 3, 1, 2}, 0, 3, 1, 2)
	checkTourBest(t, both, []int{2, 0, 3, 1}, 24, 2, 0, 3, 1)
	// Three of the stops are a ring, in which the other way round costs more.
	ring := costs(4, [3]int{0, 1, 1}, [3]int{1, 2, 1}, [3]int{2, 0, 1}, [3]int{0, 3, 1}, [3]int{3, 0, 1})
	checkTourBest(t, ring, []int{0, 2, 3, 1}, 5, 0, 3, 1, 2)
	checkTourBest(t, ring, []int{0, 2, 1, 3}, 5, 0, 1, 2, 3)
	checkTourBest(t, ring, []int{3, 2, 1, 0}, 5, 3, 1, 2, 0)
}

func TestNoRoundTrip(t *testing.T) {
	n := longest()
	// There is a way to all stops, but none back.
	checkTour(t, n, []int{1, 2, 5}, impl.Far)
	checkTourBest(t, n, []int{1, 2, 5}, impl.Far)
	checkTourNear(t, n, []int{1, 5, 2}, 1, 2, 5)
	// From the first stop nothing is reached, or from the second one not the third one.
	checkTour(t, n, []int{7, 0}, impl.Far)
	checkTourBest(t, n, []int{7, 0}, impl.Far)
	checkTourNear(t, n, []int{7, 0})
	checkTourNear(t, n, []int{3, 1, 5})
	fork := costs(3, [3]int{0, 1, 1}, [3]int{0, 2, 2}, [3]int{1, 0, 1})
	checkTour(t, fork, []int{0, 1, 2}, impl.Far)
	checkTourBest(t, fork, []int{0, 1, 2}, impl.Far)
	checkTourNear(t, fork, []int{0, 1, 2}, 0, 1, 2)
	checkTourNear(t, fork, []int{2, 1})
	checkTourBest(t, fork, []int{0, 1}, 2, 0, 1)
	// The nearest stop is a dead end.
	checkTourNear(t, costs(3, [3]int{0, 1, 1}, [3]int{0, 2, 2}, [3]int{2, 1, 2}), []int{0, 1, 2})
	checkTour(t, impl.Net{Nodes: 2}, []int{0, 1}, impl.Far)
	checkTourBest(t, impl.Net{Nodes: 2}, []int{0, 1}, impl.Far)
	checkTourNear(t, impl.Net{Nodes: 2}, []int{0, 1})
}

func TestToursAtTheLimits(t *testing.T) {
	n := largest()
	stops := []int{4, 3, 2, 1, 0}
	checkTour(t, n, stops, (4*7+4)*impl.CostMax)
	checkTourBest(t, n, stops, 8*impl.CostMax, 4, 0, 1, 2, 3)
	checkTourNear(t, n, stops, 4, 0, 1, 2, 3)
	checkTour(t, n, []int{0, 7, 6, 5, 3}, (7+7+7+6+5)*impl.CostMax)
}

// checkNoTour expects the fixed results for what are not stops.
func checkNoTour(t *testing.T, n impl.Net, stops []int) {
	t.Helper()
	checkTour(t, n, stops, -1)
	checkTourBest(t, n, stops, -1)
	checkTourNear(t, n, stops)
}

func TestInvalidStops(t *testing.T) {
	for _, n := range []impl.Net{example(), {Nodes: 1}, largest(), {Nodes: 6}} {
		for _, stops := range invalidStops(n) {
			checkNoTour(t, n, stops)
		}
	}
	// What is not a node counts before what cannot be reached.
	checkNoTour(t, impl.Net{Nodes: 3}, []int{0, 1, 3})
	checkNoTour(t, impl.Net{Nodes: 3}, []int{0, 1, 0})
}

func TestToursInAnInvalidGraph(t *testing.T) {
	eachInvalidNet(t, func(t *testing.T, n impl.Net) {
		for _, stops := range [][]int{nil, {0}, {0, 1}, {1, 0}} {
			checkNoTour(t, n, stops)
		}
	})
}

// P73
func TestTourCanStartAnywhere(t *testing.T) {
	eachStops(t, func(t *testing.T, n impl.Net, near [][]int, stops []int) {
		want := tourByHand(near, stops)
		for i := range stops {
			checkTour(t, n, slices.Concat(stops[i:], stops[:i]), want)
		}
	})
}

// P74
func TestBestTourIsOptimal(t *testing.T) {
	none := 0
	eachStops(t, func(t *testing.T, n impl.Net, near [][]int, stops []int) {
		best, cost := impl.TourBest(n, stops)
		if cost == impl.Far {
			none++
		} else {
			checkTour(t, n, best, cost)
		}
		if given := impl.TourCost(n, stops); given < cost {
			t.Error("the best tour", best, "costs", cost, "but the given one", given)
		}
		if tour := impl.TourNear(n, stops); len(tour) > 0 && impl.TourCost(n, tour) < cost {
			t.Error("the best tour", best, "costs", cost, "but the nearest-neighbour tour costs less:", tour)
		}
		var want []int
		least := impl.Far
		for _, order := range ordersOf(stops) {
			if sum := tourByHand(near, order); sum < least {
				want, least = order, sum
			}
		}
		checkTourBest(t, n, stops, least, want...)
	})
	if none < 100 {
		t.Error("only", none, "lists of stops have no round trip")
	}
}

// P75
func TestBestTourDoesNotDependOnTheOrder(t *testing.T) {
	eachStops(t, func(t *testing.T, n impl.Net, near [][]int, stops []int) {
		best, cost := impl.TourBest(n, stops)
		for i := range stops {
			for k := range i {
				if len(best) > 0 {
					other := slices.Clone(best)
					other[i], other[k] = other[k], other[i]
					if sum := impl.TourCost(n, other); sum < cost {
						t.Error("the best tour", best, "costs", cost, "and", other, "costs", sum)
					}
				}
				exchanged := slices.Clone(stops)
				exchanged[i], exchanged[k] = exchanged[k], exchanged[i]
				if _, sum := impl.TourBest(n, exchanged); sum != cost {
					t.Error("the best tour of", exchanged, "costs", sum, "and that of", stops, cost)
				}
			}
		}
	})
}

// P76
func TestNearestNeighbourTourIsGreedy(t *testing.T) {
	eachStops(t, func(t *testing.T, n impl.Net, near [][]int, stops []int) {
		want := slices.Clone(stops[:1])
		for len(want) < len(stops) {
			next, least := -1, impl.Far
			for _, stop := range stops {
				if cost := near[want[len(want)-1]][stop]; !slices.Contains(want, stop) && cost < least {
					next, least = stop, cost
				}
			}
			if next < 0 {
				checkTourNear(t, n, stops)
				return
			}
			want = append(want, next)
		}
		checkTourNear(t, n, stops, want...)
	})
}

// P110
func TestToursCanBeComputedFromATable(t *testing.T) {
	eachStops(t, func(t *testing.T, n impl.Net, near [][]int, stops []int) {
		table := impl.ManyAll(n, stops, stops)
		sum := 0
		for i := range stops {
			sum += table[i][(i+1)%len(stops)]
		}
		checkTour(t, n, stops, min(sum, impl.Far))
		if _, cost := impl.TourBest(n, stops); cost > sum || cost < 0 {
			t.Error("the best tour costs", cost, "and by the table", sum)
		}
	})
}

package tests

import (
	"math/rand/v2"
	"slices"
	"testing"

	"loop.example/waymark/impl"
)

// someLists are lists of nodes of n: none, all of them, one of them as often as possible, and arbitrary ones.
func someLists(r *rand.Rand, n impl.Net) [][]int {
	last := n.Nodes - 1
	return [][]int{
		nil, upTo(n.Nodes), reversed(upTo(n.Nodes)), slices.Repeat([]int{last}, impl.NodesMax),
		numbers(r, 1, last), numbers(r, 3, last), numbers(r, impl.NodesMax, last),
	}
}

// invalidLists are lists that are not lists of nodes of n.
func invalidLists(n impl.Net) [][]int {
	lists := [][]int{make([]int, impl.NodesMax+1), make([]int, 100)}
	for _, node := range noNodes(n) {
		lists = append(lists, []int{node}, []int{0, node}, []int{node, 0})
	}
	return lists
}

// eachList runs a test for lists of nodes of every valid graph.
func eachList(t *testing.T, test func(t *testing.T, n impl.Net, list []int)) {
	t.Helper()
	r := source()
	eachNet(t, func(t *testing.T, n impl.Net) {
		for _, list := range someLists(r, n) {
			test(t, n, list)
			if t.Failed() {
				t.Fatal("with the list", list)
			}
		}
	})
}

// checkManyNear expects an index and a distance.
func checkManyNear(t *testing.T, n impl.Net, from int, list []int, which int, cost int) {
	t.Helper()
	if i, c := impl.ManyNear(n, from, list); i != which || c != cost {
		t.Errorf("ManyNear of %v from %d is %d %d, not %d %d", list, from, i, c, which, cost)
	}
}

// checkTable expects a table of distances.
func checkTable(t *testing.T, n impl.Net, from []int, to []int, want ...[]int) {
	t.Helper()
	if got := impl.ManyAll(n, from, to); !sameTable(got, want) {
		t.Errorf("ManyAll from %v to %v is %v, not %v", from, to, got, want)
	}
}

func TestManyExamples(t *testing.T) {
	n := example()
	checkTable(t, n, []int{2, 0}, []int{1, 2}, []int{8, 0}, []int{5, 9})
	checkTable(t, n, []int{3, 3, 1}, []int{0}, []int{2}, []int{2}, []int{7})
	checkManyNear(t, n, 0, []int{3, 2}, 1, 9)
	checkManyNear(t, n, 0, []int{3, 2, 0}, 2, 0)
	checkInts(t, "what serves", impl.ManyServe(n, []int{0, 2}), 0, 0, 1, 1)
	checkInts(t, "what serves", impl.ManyServe(n, []int{3}), 0, 0, 0, 0)
}

func TestListsWithoutNodes(t *testing.T) {
	n := example()
	checkTable(t, n, nil, []int{0, 1})
	checkTable(t, n, []int{}, nil)
	// There is a row for each beginning, even if it has no columns.
	checkTable(t, n, []int{0, 1}, nil, nil, nil)
	checkManyNear(t, n, 0, nil, -1, impl.Far)
	checkInts(t, "what serves", impl.ManyServe(n, nil), -1, -1, -1, -1)
}

func TestFirstOfSeveralNearest(t *testing.T) {
	n := costs(4, [3]int{0, 1, 3}, [3]int{0, 2, 3}, [3]int{1, 3, 5}, [3]int{2, 3, 5})
	checkManyNear(t, n, 0, []int{3, 2, 1, 2}, 1, 3)
	checkManyNear(t, n, 0, []int{1, 1, 2}, 0, 3)
	checkInts(t, "what serves", impl.ManyServe(n, []int{2, 1}), -1, 1, 0, 0)
	checkInts(t, "what serves", impl.ManyServe(n, []int{1, 2, 2, 1}), -1, 0, 1, 0)
}

func TestListsOfWhatCannotBeReached(t *testing.T) {
	n := longest()
	checkManyNear(t, n, 3, []int{0, 1, 2}, -1, impl.Far)
	checkManyNear(t, n, 3, []int{0, 1, 7, 2}, 2, 4*impl.CostMax)
	checkInts(t, "what serves", impl.ManyServe(n, []int{5, 3}), -1, -1, -1, 1, 1, 0, 0, 0)
	checkTable(t, n, []int{6}, []int{5, 6, 7}, []int{impl.Far, 0, impl.CostMax})
}

func TestListsAtTheLimits(t *testing.T) {
	n := largest()
	full := upTo(impl.NodesMax)
	table := impl.ManyAll(n, full, full)
	for i, row := range table {
		for k, cost := range row {
			if want := (k - i + impl.NodesMax) % impl.NodesMax * impl.CostMax; cost != want {
				t.Error("from", i, "to", k, "it costs", cost, "not", want)
			}
		}
	}
	if len(table) != impl.NodesMax {
		t.Error("there are", len(table), "rows")
	}
	checkInts(t, "what serves", impl.ManyServe(n, full), full...)
	checkManyNear(t, n, 7, full, 7, 0)
	one := impl.Net{Nodes: 1}
	zeros := make([]int, impl.NodesMax)
	checkTable(t, one, []int{0}, zeros, zeros)
	checkManyNear(t, one, 0, zeros, 0, 0)
	checkInts(t, "what serves", impl.ManyServe(one, zeros), 0)
}

// checkNoTable expects that there is no table.
func checkNoTable(t *testing.T, n impl.Net, from []int, to []int) {
	t.Helper()
	if got := impl.ManyAll(n, from, to); len(got) != 0 {
		t.Errorf("ManyAll from %v to %v is %v", from, to, got)
	}
}

func TestInvalidLists(t *testing.T) {
	for _, n := range []impl.Net{example(), {Nodes: 1}, largest()} {
		for _, list := range invalidLists(n) {
			checkNoTable(t, n, list, []int{0})
			checkNoTable(t, n, []int{0}, list)
			checkNoTable(t, n, list, list)
			checkManyNear(t, n, 0, list, -1, -1)
			checkInts(t, "what serves", impl.ManyServe(n, list))
		}
		for _, node := range noNodes(n) {
			checkManyNear(t, n, node, []int{0}, -1, -1)
			checkManyNear(t, n, node, nil, -1, -1)
		}
	}
}

func TestListsInAnInvalidGraph(t *testing.T) {
	eachInvalidNet(t, func(t *testing.T, n impl.Net) {
		for _, list := range [][]int{nil, {0}, {0, 1}} {
			checkNoTable(t, n, []int{0}, list)
			checkNoTable(t, n, list, []int{0})
			checkManyNear(t, n, 0, list, -1, -1)
			checkInts(t, "what serves", impl.ManyServe(n, list))
		}
	})
}

// P49
func TestTableContainsDistances(t *testing.T) {
	r := source()
	eachNet(t, func(t *testing.T, n impl.Net) {
		near := allNear(n)
		back := impl.NetBack(n)
		for _, from := range someLists(r, n) {
			for _, to := range someLists(r, n) {
				want, turned := make([][]int, len(from)), make([][]int, len(to))
				for i, a := range from {
					for k, b := range to {
						want[i] = append(want[i], near[a][b])
						turned[k] = append(turned[k], near[a][b])
					}
				}
				checkTable(t, n, from, to, want...)
				checkTable(t, back, to, from, turned...)
			}
		}
	})
}

// P50
func TestNearestElement(t *testing.T) {
	eachList(t, func(t *testing.T, n impl.Net, list []int) {
		for from, near := range allNear(n) {
			which, cost := impl.ManyNear(n, from, list)
			if which < -1 || which >= len(list) || which == -1 && cost != impl.Far {
				t.Fatal("from", from, "the nearest is", which, cost)
			}
			if which >= 0 && (near[list[which]] != cost || cost == impl.Far) {
				t.Error("from", from, "the distance of", list[which], "is not", cost)
			}
			for i, node := range list {
				if near[node] < cost || i < which && near[node] == cost {
					t.Error("from", from, "the element", i, "is nearer than", which, "or as near")
				}
			}
		}
	})
}

// P51
func TestEveryNodeIsServedFromTheNearestElement(t *testing.T) {
	eachList(t, func(t *testing.T, n impl.Net, list []int) {
		near := allNear(n)
		back := impl.NetBack(n)
		serve := impl.ManyServe(n, list)
		if len(serve) != n.Nodes {
			t.Fatal("what serves is", serve)
		}
		for node, got := range serve {
			if which, _ := impl.ManyNear(back, node, list); which != got {
				t.Error("the element", got, "serves", node, "but in the reverse graph", which, "is nearest")
			}
			want, least := -1, impl.Far
			for i, from := range list {
				if near[from][node] < least {
					want, least = i, near[from][node]
				}
			}
			if got != want {
				t.Error("the element", got, "serves", node, "not", want)
			}
		}
	})
}

func TestTableDoesNotDependOnScheduling(t *testing.T) {
	n := largest()
	full := reversed(upTo(impl.NodesMax))
	want := impl.ManyAll(n, full, full)
	for range 500 {
		if got := impl.ManyAll(n, full, full); !sameTable(got, want) {
			t.Fatal("the table is", got, "and then", want)
		}
	}
}

package tests

import (
	"slices"
	"testing"

	"loop.example/waymark/impl"
)

func TestWalkExamples(t *testing.T) {
	n := example()
	for _, c := range []struct {
		walk, nodes, plain []int
		cost               int
	}{
		{nil, nil, nil, 0},
		{[]int{0}, []int{0, 1}, []int{0}, 5},
		{[]int{0, 1, 3}, []int{0, 1, 2, 3}, []int{0, 1, 3}, 10},
		{[]int{0, 1, 3, 4}, []int{0, 1, 2, 3, 0}, nil, 12},
		{[]int{0, 1, 3, 4, 2}, []int{0, 1, 2, 3, 0, 2}, []int{2}, 24},
		{[]int{1, 3, 4, 0, 5}, []int{1, 2, 3, 0, 1, 3}, []int{5}, 21},
		{[]int{0, 1, 3, 4, 0, 5}, []int{0, 1, 2, 3, 0, 1, 3}, []int{0, 5}, 26},
	} {
		if !impl.WalkOk(n, c.walk) || impl.WalkCost(n, c.walk) != c.cost {
			t.Error(c.walk, "costs", impl.WalkCost(n, c.walk))
		}
		if got := impl.WalkNodes(n, c.walk); !slices.Equal(got, c.nodes) {
			t.Error(c.walk, "visits", got)
		}
		if got := impl.WalkPlain(n, c.walk); !slices.Equal(got, c.plain) {
			t.Error(c.walk, "without cycles is", got)
		}
	}
}

// Behind a cycle, the walk goes on with the arc that it took last, even if it took a twin of it before.
func TestWalkPlainKeepsTheLastArc(t *testing.T) {
	n := twins()
	for _, c := range []struct{ walk, plain []int }{
		{[]int{1, 6, 0}, []int{0}},
		{[]int{0, 6, 2, 3}, []int{2, 3}},
		{[]int{0, 3, 5, 4}, []int{0, 4}},
		{[]int{3, 5, 4, 5}, nil},
		{[]int{3, 5, 4, 5, 6}, []int{6}},
	} {
		if got := impl.WalkPlain(n, c.walk); !slices.Equal(got, c.plain) {
			t.Error(c.walk, "without cycles is", got, "not", c.plain)
		}
	}
}

// longWalk is as many arcs round a ring of two nodes.
func longWalk(arcs int) (impl.Net, []int) {
	n := costs(2, [3]int{0, 1, impl.CostMax}, [3]int{1, 0, 1})
	w := make([]int, arcs)
	for i := range w {
		w[i] = i % 2
	}
	return n, w
}

func TestWalkLimit(t *testing.T) {
	n, w := longWalk(impl.WalkMax)
	if !impl.WalkOk(n, w) || impl.WalkCost(n, w) != 1000 || len(impl.WalkNodes(n, w)) != impl.WalkMax+1 || len(impl.WalkPlain(n, w)) != 0 {
		t.Error("the longest walk is rejected")
	}
	n, w = longWalk(impl.WalkMax + 1)
	checkNoWalk(t, n, w)
}

// checkNoWalk expects the fixed results for what is not a walk.
func checkNoWalk(t *testing.T, n impl.Net, w []int) {
	t.Helper()
	if impl.WalkOk(n, w) {
		t.Error(w, "is accepted")
	}
	if got := impl.WalkCost(n, w); got != -1 {
		t.Error(w, "costs", got)
	}
	if got := impl.WalkNodes(n, w); len(got) != 0 {
		t.Error(w, "visits", got)
	}
	if got := impl.WalkPlain(n, w); len(got) != 0 {
		t.Error(w, "without cycles is", got)
	}
	for at := range len(w) + 1 {
		if got, ok := impl.WalkJoin(n, w[:at], w[at:]); ok || len(got) != 0 {
			t.Error(w, "joined at", at, "is", got, ok)
		}
	}
}

func TestListsThatAreNoWalks(t *testing.T) {
	for _, n := range []impl.Net{example(), twins(), freeRing(), largest()} {
		for _, w := range noWalks(n) {
			checkNoWalk(t, n, w)
		}
	}
	checkNoWalk(t, impl.Net{Nodes: 3}, []int{0})
}

func TestNoWalkInAnInvalidGraph(t *testing.T) {
	eachInvalidNet(t, func(t *testing.T, n impl.Net) {
		for _, w := range [][]int{nil, {}, {0}, {1}, {0, 1, 3}, {-1}} {
			checkNoWalk(t, n, w)
		}
	})
}

// P5
func TestPartsOfWalksAreWalks(t *testing.T) {
	eachWalk(t, func(t *testing.T, n impl.Net, w []int) {
		for at := range len(w) + 1 {
			if !impl.WalkOk(n, w[:at]) || !impl.WalkOk(n, w[at:]) {
				t.Error(w, "has parts at", at, "that are not walks")
			}
		}
	})
}

// P6
func TestCostIsAdditive(t *testing.T) {
	eachWalk(t, func(t *testing.T, n impl.Net, w []int) {
		cost := impl.WalkCost(n, w)
		if cost != sumOf(n, w) {
			t.Error(w, "costs", cost, "not", sumOf(n, w))
		}
		for at := range len(w) + 1 {
			if cost != impl.WalkCost(n, w[:at])+impl.WalkCost(n, w[at:]) {
				t.Error("the parts of", w, "at", at, "do not cost", cost)
			}
		}
	})
}

// P7
func TestArcsConnectConsecutiveNodes(t *testing.T) {
	eachWalk(t, func(t *testing.T, n impl.Net, w []int) {
		nodes := impl.WalkNodes(n, w)
		if len(w) == 0 {
			if len(nodes) != 0 {
				t.Error("the empty walk visits", nodes)
			}
			return
		}
		if len(nodes) != len(w)+1 {
			t.Fatal(w, "visits", nodes)
		}
		for i, arc := range w {
			if n.Arcs[arc].From != nodes[i] || n.Arcs[arc].To != nodes[i+1] {
				t.Error(w, "visits", nodes)
			}
		}
	})
}

// P8
func TestJoiningAddsCosts(t *testing.T) {
	eachWalk(t, func(t *testing.T, n impl.Net, w []int) {
		for at := range len(w) + 1 {
			got, ok := impl.WalkJoin(n, w[:at], w[at:])
			if !ok || !slices.Equal(got, w) {
				t.Error(w[:at], "and", w[at:], "joined are", got, ok)
			}
			if impl.WalkCost(n, got) != impl.WalkCost(n, w[:at])+impl.WalkCost(n, w[at:]) {
				t.Error("joining", w[:at], "and", w[at:], "changes their cost")
			}
		}
	})
}

// P8
func TestJoinSucceedsExactlyForWalks(t *testing.T) {
	for _, n := range []impl.Net{example(), twins(), freeRing()} {
		walks := append(someWalks(n), noWalks(n)...)
		for _, a := range walks {
			for _, b := range walks {
				both := slices.Concat(a, b)
				got, ok := impl.WalkJoin(n, a, b)
				if ok != impl.WalkOk(n, both) || ok && !slices.Equal(got, both) || !ok && len(got) != 0 {
					t.Fatal(a, "and", b, "joined are", got, ok)
				}
			}
		}
	}
	n, w := longWalk(impl.WalkMax)
	if _, ok := impl.WalkJoin(n, w, []int{0}); ok {
		t.Error("one arc too many is joined")
	}
}

// P9
func TestPlainWalksAreSimple(t *testing.T) {
	eachWalk(t, func(t *testing.T, n impl.Net, w []int) {
		plain := impl.WalkPlain(n, w)
		if !impl.WalkOk(n, plain) || impl.WalkCost(n, plain) > impl.WalkCost(n, w) {
			t.Error(w, "without cycles is", plain)
		}
		if again := impl.WalkPlain(n, plain); !slices.Equal(again, plain) {
			t.Error(plain, "without cycles is", again)
		}
		if len(w) == 0 {
			return
		}
		from, to := n.Arcs[w[0]].From, n.Arcs[w[len(w)-1]].To
		if len(plain) == 0 {
			if from != to {
				t.Error(w, "has different ends, but nothing of it is left")
			}
			return
		}
		nodes := impl.WalkNodes(n, plain)
		if nodes[0] != from || nodes[len(nodes)-1] != to {
			t.Error(plain, "has other ends than", w)
		}
		slices.Sort(nodes)
		if len(slices.Compact(nodes)) != len(plain)+1 {
			t.Error(plain, "visits a node twice")
		}
	})
}

// plainByCutting removes cycles one by one: always up to the last visit of the first node visited twice.
func plainByCutting(n impl.Net, w []int) []int {
	left := slices.Clone(w)
	for i := 0; i < len(left); i++ {
		here := n.Arcs[left[i]].From
		for k := len(left) - 1; k >= i; k-- {
			if n.Arcs[left[k]].To == here {
				left = slices.Delete(left, i, k+1)
				i--
				break
			}
		}
	}
	return left
}

func TestWalkPlainAgreesWithCutting(t *testing.T) {
	eachWalk(t, func(t *testing.T, n impl.Net, w []int) {
		if got, want := impl.WalkPlain(n, w), plainByCutting(n, w); !slices.Equal(got, want) {
			t.Error(w, "without cycles is", got, "not", want)
		}
	})
}

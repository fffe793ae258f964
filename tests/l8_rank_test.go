package tests

import (
	"math"
	"math/rand/v2"
	"slices"
	"testing"

	"loop.example/waymark/impl"
)

// upTo are the numbers from 0 on, so many in all.
func upTo(many int) []int {
	list := make([]int, many)
	for i := range list {
		list[i] = i
	}
	return list
}

// reversed is a list from its end to its beginning.
func reversed(list []int) []int {
	back := slices.Clone(list)
	slices.Reverse(back)
	return back
}

// someOrders are orders of the nodes of n, each followed by its reverse.
func someOrders(r *rand.Rand, n impl.Net) [][]int {
	orders := [][]int{upTo(n.Nodes), reversed(upTo(n.Nodes))}
	for range 3 {
		order := r.Perm(n.Nodes)
		orders = append(orders, order, reversed(order))
	}
	return orders
}

// invalidOrders are lists that are not permutations of the nodes of n, which has at least two.
func invalidOrders(n impl.Net) map[string][]int {
	orders := map[string][]int{
		"nothing":      nil,
		"one too few":  upTo(n.Nodes - 1),
		"one too many": upTo(n.Nodes + 1),
		"one twice":    append(upTo(n.Nodes-1), 0),
		"one more":     append(upTo(n.Nodes), 0),
		"all the same": make([]int, n.Nodes),
		"from 1 on":    upTo(n.Nodes + 1)[1:],
	}
	for name, node := range map[string]int{"negative": -1, "too large": n.Nodes, "smallest": math.MinInt, "largest": math.MaxInt} {
		first, last := upTo(n.Nodes), upTo(n.Nodes)
		first[0], last[n.Nodes-1] = node, node
		orders[name+" first"], orders[name+" last"] = first, last
	}
	return orders
}

// square is a table with the same number everywhere.
func square(many int, number int) [][]int {
	var table [][]int
	for range many {
		table = append(table, slices.Repeat([]int{number}, many))
	}
	return table
}

// contracted is the hierarchy of n, made step by step as the document says.
func contracted(n impl.Net, order []int) impl.Rank {
	cost, over := square(n.Nodes, impl.Far), square(n.Nodes, -1)
	for _, a := range n.Arcs {
		cost[a.From][a.To] = min(cost[a.From][a.To], a.Cost)
	}
	for i, m := range order {
		for _, a := range order[i+1:] {
			for _, b := range order[i+1:] {
				if a == b || cost[a][m] == impl.Far || cost[m][b] == impl.Far {
					continue
				}
				if sum := cost[a][m] + cost[m][b]; sum < cost[a][b] {
					cost[a][b], over[a][b] = sum, m
				}
			}
		}
	}
	return impl.Rank{Order: order, Cost: cost, Over: over}
}

func sameTable(a [][]int, b [][]int) bool {
	return slices.EqualFunc(a, b, slices.Equal)
}

func sameRank(a impl.Rank, b impl.Rank) bool {
	return slices.Equal(a.Order, b.Order) && sameTable(a.Cost, b.Cost) && sameTable(a.Over, b.Over)
}

// copyRank is a hierarchy in memory of its own.
func copyRank(r impl.Rank) impl.Rank {
	c := impl.Rank{Order: slices.Clone(r.Order)}
	for i := range r.Cost {
		c.Cost = append(c.Cost, slices.Clone(r.Cost[i]))
		c.Over = append(c.Over, slices.Clone(r.Over[i]))
	}
	return c
}

// invalidRanks are hierarchies that are not those of n, which has at least two nodes; r is one of n.
func invalidRanks(n impl.Net, r impl.Rank) map[string]impl.Rank {
	changes := map[string]func(r *impl.Rank){
		"nothing":              func(r *impl.Rank) { *r = impl.Rank{} },
		"only an order":        func(r *impl.Rank) { r.Cost, r.Over = nil, nil },
		"no order":             func(r *impl.Rank) { r.Order = nil },
		"no costs":             func(r *impl.Rank) { r.Cost = nil },
		"no Over":              func(r *impl.Rank) { r.Over = nil },
		"costs less":           func(r *impl.Rank) { r.Cost[0][1]-- },
		"costs more":           func(r *impl.Rank) { r.Cost[0][1]++ },
		"an arc in a node":     func(r *impl.Rank) { r.Cost[1][1] = 0 },
		"over another node":    func(r *impl.Rank) { r.Over[0][1]++ },
		"over nothing":         func(r *impl.Rank) { r.Over[1][0] = -2 },
		"over no node":         func(r *impl.Rank) { r.Over[1][0] = math.MaxInt },
		"last cost":            func(r *impl.Rank) { r.Cost[n.Nodes-1][n.Nodes-1]-- },
		"last Over":            func(r *impl.Rank) { r.Over[n.Nodes-1][n.Nodes-1] = 0 },
		"a row too few":        func(r *impl.Rank) { r.Cost = r.Cost[1:] },
		"a row of Over less":   func(r *impl.Rank) { r.Over = r.Over[:n.Nodes-1] },
		"a row too many":       func(r *impl.Rank) { r.Cost = append(r.Cost, r.Cost[0]) },
		"an empty row more":    func(r *impl.Rank) { r.Over = append(r.Over, nil) },
		"a column too few":     func(r *impl.Rank) { r.Cost[1] = r.Cost[1][:n.Nodes-1] },
		"a column of Over":     func(r *impl.Rank) { r.Over[0] = r.Over[0][1:] },
		"a column too many":    func(r *impl.Rank) { r.Cost[0] = append(r.Cost[0], impl.Far) },
		"a row without number": func(r *impl.Rank) { r.Over[1] = nil },
	}
	ranks := map[string]impl.Rank{}
	for name, change := range changes {
		c := copyRank(r)
		change(&c)
		ranks[name] = c
	}
	for name, order := range invalidOrders(n) {
		c := copyRank(r)
		c.Order = order
		ranks["order: "+name] = c
	}
	return ranks
}

// eachRank runs a test for hierarchies of every valid graph.
func eachRank(t *testing.T, test func(t *testing.T, n impl.Net, r impl.Rank)) {
	t.Helper()
	source := source()
	eachNet(t, func(t *testing.T, n impl.Net) {
		for _, order := range someOrders(source, n) {
			test(t, n, impl.RankOf(n, order))
			if t.Failed() {
				t.Fatal("in the order", order)
			}
		}
	})
}

// climbs returns, for each node, the cost of the cheapest path from a node that takes ever later nodes of an order.
// It tries all paths.
func climbs(order []int, cost func(a int, b int) int, from int) []int {
	best := slices.Repeat([]int{impl.Far}, len(order))
	var climb func(node int, sum int)
	climb = func(node int, sum int) {
		best[node] = min(best[node], sum)
		for _, next := range order[slices.Index(order, node)+1:] {
			if cost(node, next) != impl.Far {
				climb(next, sum+cost(node, next))
			}
		}
	}
	climb(from, 0)
	return best
}

// meeting is the cost of the cheapest path up and down again, and the first node in order at its top.
func meeting(r impl.Rank, from int, to int) (int, int) {
	up := climbs(r.Order, func(a int, b int) int { return r.Cost[a][b] }, from)
	down := climbs(r.Order, func(a int, b int) int { return r.Cost[b][a] }, to)
	least, top := impl.Far, -1
	for _, m := range r.Order {
		if up[m] != impl.Far && down[m] != impl.Far && up[m]+down[m] < least {
			least, top = up[m]+down[m], m
		}
	}
	return least, top
}

// checkRankNear expects a distance and a meeting node.
func checkRankNear(t *testing.T, n impl.Net, r impl.Rank, from int, to int, cost int, node int) {
	t.Helper()
	if c, m := impl.RankNear(n, r, from, to); c != cost || m != node {
		t.Errorf("RankNear from %d to %d is %d %d, not %d %d", from, to, c, m, cost, node)
	}
}

func TestRankExamples(t *testing.T) {
	n := example()
	r := impl.RankOf(n, []int{1, 2, 0, 3})
	far := impl.Far
	want := impl.Rank{
		Order: []int{1, 2, 0, 3},
		Cost:  [][]int{{far, 5, 9, 10}, {far, far, 4, 9}, {far, far, far, 1}, {2, far, far, far}},
		Over:  [][]int{{-1, -1, 1, 2}, {-1, -1, -1, -1}, {-1, -1, -1, -1}, {-1, -1, -1, -1}},
	}
	if !sameRank(r, want) || !impl.RankOk(n, r) {
		t.Fatal("the hierarchy is", r)
	}
	if got := impl.RankMany(n, r); got != 2 {
		t.Error("there are", got, "shortcuts")
	}
	checkRankNear(t, n, r, 0, 3, 10, 3)
	checkRankNear(t, n, r, 1, 0, 7, 3)
	checkRankNear(t, n, r, 2, 1, 8, 3)
	checkRankNear(t, n, r, 2, 2, 0, 2)
	checkInts(t, "the arc from 0 to 3", impl.RankArc(n, r, 0, 3), 0, 1, 3)
	checkInts(t, "the arc from 0 to 2", impl.RankArc(n, r, 0, 2), 0, 1)
	checkInts(t, "the arc from 1 to 3", impl.RankArc(n, r, 1, 3), 5)
	checkInts(t, "the arc from 0 to 0", impl.RankArc(n, r, 0, 0))
	checkInts(t, "the arc from 2 to 0", impl.RankArc(n, r, 2, 0))
}

func TestShortcutAsCheapAsAnArc(t *testing.T) {
	n := costs(3, [3]int{0, 1, 2}, [3]int{1, 2, 3}, [3]int{0, 2, 6}, [3]int{0, 2, 5})
	r := impl.RankOf(n, []int{1, 0, 2})
	if r.Cost[0][2] != 5 || r.Over[0][2] != -1 || impl.RankMany(n, r) != 0 {
		t.Error("the shortcut replaces an arc that costs the same:", r)
	}
	checkInts(t, "the arc", impl.RankArc(n, r, 0, 2), 3)
	// A shortcut that costs one less is taken.
	n.Arcs[3].Cost = 6
	r = impl.RankOf(n, []int{1, 0, 2})
	if r.Cost[0][2] != 5 || r.Over[0][2] != 1 || impl.RankMany(n, r) != 1 {
		t.Error("the cheaper shortcut is not taken:", r)
	}
	checkInts(t, "the shortcut", impl.RankArc(n, r, 0, 2), 0, 1)
}

func TestShortcutAsCheapAsAShortcut(t *testing.T) {
	// From 0 to 3 both over 1 and over 2 cost 4: the node contracted first remains.
	n := costs(4, [3]int{0, 1, 1}, [3]int{0, 2, 2}, [3]int{1, 3, 3}, [3]int{2, 3, 2})
	for order, want := range map[[4]int]int{{1, 2, 0, 3}: 1, {2, 1, 0, 3}: 2, {2, 1, 3, 0}: 2} {
		r := impl.RankOf(n, order[:])
		if r.Cost[0][3] != 4 || r.Over[0][3] != want {
			t.Error("in the order", order, "the hierarchy is", r)
		}
	}
}

func TestUnpackedArcIsTheFirstCheapest(t *testing.T) {
	n := twins()
	r := impl.RankOf(n, []int{1, 0, 2})
	checkInts(t, "the arc from 0 to 1", impl.RankArc(n, r, 0, 1), 1)
	checkInts(t, "the shortcut from 0 to 2", impl.RankArc(n, r, 0, 2), 1, 3)
	checkInts(t, "the shortcut from 2 to 0", impl.RankArc(n, r, 2, 0), 5, 6)
}

func TestMeetingNodeIsTheFirstInOrder(t *testing.T) {
	// Everything costs nothing, so that all nodes above both ends are as good.
	n := costs(3, [3]int{0, 1, 0}, [3]int{1, 2, 0}, [3]int{2, 0, 0}, [3]int{1, 0, 0}, [3]int{2, 1, 0}, [3]int{0, 2, 0})
	for _, order := range [][]int{{0, 1, 2}, {2, 1, 0}, {1, 2, 0}} {
		r := impl.RankOf(n, order)
		for _, from := range order {
			for _, to := range order {
				top := max(slices.Index(order, from), slices.Index(order, to))
				checkRankNear(t, n, r, from, to, 0, order[top])
			}
		}
	}
}

func TestRankAtTheLimits(t *testing.T) {
	n := longest()
	last := n.Nodes - 1
	// The inner nodes first, so that one shortcut leads all the way.
	order := append(upTo(n.Nodes)[1:], 0)
	order[last], order[last-1] = last, 0
	r := impl.RankOf(n, order)
	if r.Cost[0][last] != last*impl.CostMax || impl.RankMany(n, r) != last-1 {
		t.Error("the hierarchy is", r)
	}
	checkInts(t, "the longest shortcut", impl.RankArc(n, r, 0, last), upTo(last)...)
	checkRankNear(t, n, r, 0, last, last*impl.CostMax, last)
	checkRankNear(t, n, r, last, 0, impl.Far, -1)
	one := impl.Net{Nodes: 1}
	r = impl.RankOf(one, []int{0})
	if !impl.RankOk(one, r) || impl.RankMany(one, r) != 0 || !sameTable(r.Cost, square(1, impl.Far)) || !sameTable(r.Over, square(1, -1)) {
		t.Error("the hierarchy of one node is", r)
	}
	checkRankNear(t, one, r, 0, 0, 0, 0)
}

// checkNoRank expects the fixed results for what is not a hierarchy of n.
func checkNoRank(t *testing.T, n impl.Net, r impl.Rank) {
	t.Helper()
	if impl.RankOk(n, r) {
		t.Error("RankOk is true")
	}
	if got := impl.RankMany(n, r); got != -1 {
		t.Error("RankMany is", got)
	}
	for _, ends := range [][2]int{{0, 1}, {1, 0}, {0, 0}, {-1, 0}, {0, n.Nodes}} {
		checkRankNear(t, n, r, ends[0], ends[1], -1, -1)
		checkInts(t, "RankArc", impl.RankArc(n, r, ends[0], ends[1]))
	}
}

func TestInvalidOrders(t *testing.T) {
	for _, n := range []impl.Net{example(), largest(), {Nodes: 2}} {
		for name, order := range invalidOrders(n) {
			if got := impl.RankOf(n, order); !sameRank(got, impl.Rank{}) {
				t.Errorf("%s: the hierarchy is %v", name, got)
			}
		}
	}
	for _, order := range [][]int{nil, {1}, {-1}, {0, 0}, {0, 1}} {
		if got := impl.RankOf(impl.Net{Nodes: 1}, order); !sameRank(got, impl.Rank{}) {
			t.Errorf("the hierarchy of one node in the order %v is %v", order, got)
		}
	}
}

func TestInvalidRanks(t *testing.T) {
	for _, n := range []impl.Net{example(), largest(), twins()} {
		for name, r := range invalidRanks(n, impl.RankOf(n, upTo(n.Nodes))) {
			t.Run(name, func(t *testing.T) { checkNoRank(t, n, r) })
		}
	}
}

func TestRankOfAnotherGraph(t *testing.T) {
	n := example()
	r := impl.RankOf(n, upTo(n.Nodes))
	dearer := example()
	dearer.Arcs[0].Cost++
	checkNoRank(t, dearer, r)
	checkNoRank(t, largest(), r)
	checkNoRank(t, impl.Net{Nodes: 4}, r)
	// Tolls and loads are not part of a hierarchy.
	dearer = example()
	dearer.Arcs[0].Toll++
	dearer.Arcs[1].Load++
	if !impl.RankOk(dearer, r) {
		t.Error("the hierarchy depends on a toll or a load")
	}
}

func TestRankInAnInvalidGraph(t *testing.T) {
	r := impl.RankOf(example(), upTo(4))
	eachInvalidNet(t, func(t *testing.T, n impl.Net) {
		orders := [][]int{nil, {0}, {0, 1, 2, 3}}
		// An order of all nodes, as far as there can be one.
		if n.Nodes > 0 && n.Nodes < 100 {
			orders = append(orders, upTo(n.Nodes))
		}
		for _, order := range orders {
			if got := impl.RankOf(n, order); !sameRank(got, impl.Rank{}) {
				t.Error("the hierarchy is", got)
			}
		}
		checkNoRank(t, n, r)
		checkNoRank(t, n, impl.Rank{})
	})
}

func TestRankWithoutANode(t *testing.T) {
	for _, n := range []impl.Net{example(), {Nodes: 1}, largest()} {
		r := impl.RankOf(n, upTo(n.Nodes))
		for _, node := range noNodes(n) {
			for _, ends := range [][2]int{{node, 0}, {0, node}, {node, node}} {
				checkRankNear(t, n, r, ends[0], ends[1], -1, -1)
				checkInts(t, "RankArc", impl.RankArc(n, r, ends[0], ends[1]))
			}
		}
	}
}

func TestRankIsMadeStepByStep(t *testing.T) {
	eachRank(t, func(t *testing.T, n impl.Net, r impl.Rank) {
		if !sameRank(r, contracted(n, r.Order)) || !impl.RankOk(n, r) {
			t.Error("the hierarchy is", r)
		}
	})
}

func TestRankOkIsExact(t *testing.T) {
	r := source()
	eachNet(t, func(t *testing.T, n impl.Net) {
		orders := someOrders(r, n)
		for i, order := range orders {
			rank := contracted(n, orders[(i+2)%len(orders)])
			rank.Order = order
			if want := sameRank(rank, contracted(n, order)); impl.RankOk(n, rank) != want {
				t.Error("RankOk of", rank, "is", !want)
			}
		}
	})
}

// P36
func TestShortcutsNeverUndercutDistances(t *testing.T) {
	eachRank(t, func(t *testing.T, n impl.Net, r impl.Rank) {
		for a, near := range allNear(n) {
			for b, cost := range near {
				if r.Cost[a][b] < cost {
					t.Error("the arc from", a, "to", b, "costs only", r.Cost[a][b])
				}
			}
		}
		for _, a := range n.Arcs {
			if r.Cost[a.From][a.To] > a.Cost {
				t.Error("the hierarchy has nothing as cheap as", a)
			}
		}
	})
}

func TestSearchingUpwardsIsExact(t *testing.T) {
	eachRank(t, func(t *testing.T, n impl.Net, r impl.Rank) {
		for from, near := range allNear(n) {
			for to, cost := range near {
				want, node := meeting(r, from, to)
				if want != cost {
					t.Error("the best path up and down from", from, "to", to, "costs", want)
				}
				checkRankNear(t, n, r, from, to, cost, node)
			}
		}
	})
}

// P38
func TestShortcutsUnpackToWalks(t *testing.T) {
	eachRank(t, func(t *testing.T, n impl.Net, r impl.Rank) {
		for a := range n.Nodes {
			for b := range n.Nodes {
				checkUnpacked(t, n, r, a, b)
			}
		}
	})
}

// checkUnpacked expects a walk from a to b with the cost of the hierarchy's arc, if there is one.
func checkUnpacked(t *testing.T, n impl.Net, r impl.Rank, a int, b int) {
	t.Helper()
	w := impl.RankArc(n, r, a, b)
	if r.Cost[a][b] == impl.Far {
		checkInts(t, "what is no arc", w)
		return
	}
	nodes := impl.WalkNodes(n, w)
	if len(nodes) == 0 || nodes[0] != a || nodes[len(nodes)-1] != b || impl.WalkCost(n, w) != r.Cost[a][b] {
		t.Fatal("the arc from", a, "to", b, "is", w)
	}
	if (len(w) > 1) != (r.Over[a][b] != -1) {
		t.Error("the arc from", a, "to", b, "over", r.Over[a][b], "is", w)
	}
	if m := r.Over[a][b]; m != -1 {
		checkInts(t, "a shortcut", w, slices.Concat(impl.RankArc(n, r, a, m), impl.RankArc(n, r, m, b))...)
	}
	first := slices.IndexFunc(n.Arcs, func(c impl.Arc) bool { return c.From == a && c.To == b && c.Cost == r.Cost[a][b] })
	if len(w) == 1 && w[0] != first {
		t.Error("the first arc from", a, "to", b, "with that cost is", first, "not", w)
	}
}

// P39
func TestShortcutsGoOverEarlierNodes(t *testing.T) {
	eachRank(t, func(t *testing.T, n impl.Net, r impl.Rank) {
		many := 0
		for a, row := range r.Over {
			for b, m := range row {
				if m == -1 {
					continue
				}
				many++
				over := slices.Index(r.Order, m)
				if over < 0 || over >= slices.Index(r.Order, a) || over >= slices.Index(r.Order, b) {
					t.Error("the shortcut from", a, "to", b, "goes over", m)
				}
			}
		}
		if got := impl.RankMany(n, r); got != many {
			t.Error("of", many, "shortcuts", got, "are counted")
		}
	})
}

// P40
func TestContractionOrderDoesNotMatter(t *testing.T) {
	eachRank(t, func(t *testing.T, n impl.Net, r impl.Rank) {
		back := impl.RankOf(n, reversed(r.Order))
		for from := range n.Nodes {
			for to := range n.Nodes {
				a, _ := impl.RankNear(n, r, from, to)
				b, _ := impl.RankNear(n, back, from, to)
				if a != b {
					t.Error("from", from, "to", to, "it costs", a, "or, in the reverse order,", b)
				}
			}
		}
	})
}

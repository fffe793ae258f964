package tests

import (
	"math"
	"math/rand/v2"
	"slices"
	"testing"

	"loop.example/waymark/impl"
)

// exampleTurns forbid the turn that the best walk of the example takes, and add to the cost of another one.
func exampleTurns() []impl.Turn {
	return []impl.Turn{{In: 0, Out: 1, Cost: -1}, {In: 2, Out: 3, Cost: 2}}
}

// allTurns are all pairs of arcs that follow each other, with cost 0. There may be too many of them.
func allTurns(n impl.Net) []impl.Turn {
	var turns []impl.Turn
	for in, a := range n.Arcs {
		for out, b := range n.Arcs {
			if a.To == b.From {
				turns = append(turns, impl.Turn{In: in, Out: out})
			}
		}
	}
	return turns
}

// someTurns are arbitrary valid turns of n, at most so many, about a third of them forbidden.
func someTurns(r *rand.Rand, n impl.Net, most int) []impl.Turn {
	turns := allTurns(n)
	r.Shuffle(len(turns), func(i int, k int) { turns[i], turns[k] = turns[k], turns[i] })
	turns = turns[:min(len(turns), most)]
	for i := range turns {
		turns[i].Cost = r.IntN(impl.CostMax + 1)
		switch r.IntN(6) {
		case 0, 1:
			turns[i].Cost = -1
		case 2:
			turns[i].Cost = r.IntN(3)
		}
	}
	return turns
}

// turnLists are valid lists of turns of n: none, all of the same cost as far as there may be as many, and arbitrary ones.
func turnLists(n impl.Net) [][]impl.Turn {
	lists := [][]impl.Turn{nil, {}}
	for _, cost := range []int{-1, 0, 1, impl.CostMax} {
		turns := allTurns(n)
		turns = turns[:min(len(turns), impl.TurnsMax)]
		for i := range turns {
			turns[i].Cost = cost
		}
		lists = append(lists, turns)
	}
	r := source()
	for most := range impl.TurnsMax + 1 {
		lists = append(lists, someTurns(r, n, most))
	}
	return lists
}

// turnCost is the cost of a turn by its definition; forbidden turns cost -1.
func turnCost(turns []impl.Turn, in int, out int) int {
	for _, turn := range turns {
		if turn.In == in && turn.Out == out {
			return turn.Cost
		}
	}
	return 0
}

// costWithTurns is the cost of a walk with its turns by its definition.
func costWithTurns(n impl.Net, turns []impl.Turn, w []int) int {
	sum := sumOf(n, w)
	for i := range w {
		if i == 0 {
			continue
		}
		cost := turnCost(turns, w[i-1], w[i])
		if cost == -1 {
			return -1
		}
		sum += cost
	}
	return sum
}

// extended is, for each arc, the smallest cost of walks that end with it and have one more arc than the given ones.
func extended(n impl.Net, turns []impl.Turn, ends []int) []int {
	longer := slices.Repeat([]int{impl.Far}, len(n.Arcs))
	for in, cost := range ends {
		if cost == impl.Far {
			continue
		}
		for out, b := range n.Arcs {
			turn := turnCost(turns, in, out)
			if n.Arcs[in].To == b.From && turn != -1 {
				longer[out] = min(longer[out], cost+turn+b.Cost)
			}
		}
	}
	return longer
}

// cheapestWithTurns tries all walks, one number of arcs after the other.
func cheapestWithTurns(n impl.Net, turns []impl.Turn, from int) []int {
	best := slices.Repeat([]int{impl.Far}, n.Nodes)
	ends := slices.Repeat([]int{impl.Far}, len(n.Arcs))
	for i, a := range n.Arcs {
		if a.From == from {
			ends[i] = a.Cost
		}
	}
	for range impl.WalkMax {
		for i, a := range n.Arcs {
			best[a.To] = min(best[a.To], ends[i])
		}
		ends = extended(n, turns, ends)
	}
	best[from] = 0
	return best
}

// eachTurns runs a test for lists of turns of every valid graph.
func eachTurns(t *testing.T, test func(t *testing.T, n impl.Net, turns []impl.Turn)) {
	t.Helper()
	eachNet(t, func(t *testing.T, n impl.Net) {
		for _, turns := range turnLists(n) {
			test(t, n, turns)
			if t.Failed() {
				t.Fatalf("with the turns %v", turns)
			}
		}
	})
}

// eachTurnWalk runs a test for walks of every valid graph, with turns.
func eachTurnWalk(t *testing.T, test func(t *testing.T, n impl.Net, turns []impl.Turn, w []int)) {
	t.Helper()
	r := source()
	eachNet(t, func(t *testing.T, n impl.Net) {
		walks := someWalks(n)
		for _, turns := range turnLists(n) {
			for range 8 {
				test(t, n, turns, walks[r.IntN(len(walks))])
			}
		}
	})
}

// bypass has a turn that costs more than a walk around it, which visits a node twice.
func bypass() impl.Net {
	return costs(4, [3]int{0, 1, 1}, [3]int{1, 2, 1}, [3]int{1, 3, 2}, [3]int{3, 1, 2})
}

func TestTurnExamples(t *testing.T) {
	n, turns := example(), exampleTurns()
	if got := impl.TurnAll(n, turns, 0); !slices.Equal(got, []int{0, 5, 12, 14}) {
		t.Error("costs from 0 are", got)
	}
	for _, c := range []struct {
		w    []int
		want int
	}{{nil, 0}, {[]int{1}, 4}, {[]int{2, 3}, 15}, {[]int{0, 1}, -1}, {[]int{0, 1, 3}, -1}, {[]int{0, 5, 4, 2, 3}, 31}, {[]int{2, 3, 4, 2, 3}, 32}} {
		if got := impl.TurnWalk(n, turns, c.w); got != c.want {
			t.Errorf("the walk %v costs %d, not %d", c.w, got, c.want)
		}
	}
	want := impl.Net{Nodes: 6, Arcs: []impl.Arc{
		{From: 0, To: 5, Cost: 9, Load: 9},
		{From: 1, To: 3, Cost: 1, Load: 9},
		{From: 2, To: 3, Cost: 3, Load: 9},
		{From: 3, To: 4, Cost: 2, Load: 9},
		{From: 4, To: 0, Cost: 5, Load: 9},
		{From: 4, To: 2, Cost: 12, Load: 9},
		{From: 5, To: 4, Cost: 2, Load: 9},
	}}
	if got, ok := impl.TurnNet(n, turns); !ok || !sameNet(got, want) {
		t.Error("the line graph is", got, ok)
	}
}

func TestForbiddenTurn(t *testing.T) {
	n := bypass()
	forbid := []impl.Turn{{In: 0, Out: 1, Cost: -1}}
	// The node 1 is left by another arc first, and comes again.
	if got := impl.TurnAll(n, forbid, 0); !slices.Equal(got, []int{0, 1, 6, 3}) {
		t.Error("costs around the forbidden turn are", got)
	}
	if got := impl.TurnWalk(n, forbid, []int{0, 2, 3, 1}); got != 6 {
		t.Error("the walk around costs", got)
	}
	// From the node 1 itself there is no turn.
	if got := impl.TurnAll(n, forbid, 1); !slices.Equal(got, []int{impl.Far, 0, 1, 2}) {
		t.Error("costs behind the forbidden turn are", got)
	}
	closed := append(forbid, impl.Turn{In: 2, Out: 3, Cost: -1})
	if got := impl.TurnAll(n, closed, 0); !slices.Equal(got, []int{0, 1, impl.Far, 3}) {
		t.Error("costs without a way around are", got)
	}
	// A turn that is not forbidden may cost more than the way around, too.
	dear := []impl.Turn{{In: 0, Out: 1, Cost: impl.CostMax}}
	if got := impl.TurnAll(n, dear, 0); !slices.Equal(got, []int{0, 1, 6, 3}) {
		t.Error("costs around the dear turn are", got)
	}
	if got := impl.TurnWalk(n, dear, []int{0, 1}); got != 2+impl.CostMax {
		t.Error("the dear turn costs", got)
	}
	// Coming back to the beginning does not make it cost anything.
	ring := costs(2, [3]int{0, 1, 5}, [3]int{1, 0, 5})
	if got := impl.TurnAll(ring, []impl.Turn{{In: 0, Out: 1, Cost: -1}}, 0); !slices.Equal(got, []int{0, 5}) {
		t.Error("costs in a ring are", got)
	}
}

func TestForbiddenTurnAnywhereInAWalk(t *testing.T) {
	// The forbidden turn is the last one of the walk, then the first one, then in its middle.
	n := costs(3, [3]int{0, 1, 1}, [3]int{1, 2, 1}, [3]int{2, 0, 1})
	forbid := []impl.Turn{{In: 2, Out: 0, Cost: -1}}
	for _, w := range [][]int{{1, 2, 0}, {2, 0, 1}, {1, 2, 0, 1}} {
		if got := impl.TurnWalk(n, forbid, w); got != -1 {
			t.Errorf("the walk %v costs %d", w, got)
		}
	}
	if got := impl.TurnWalk(n, forbid, []int{0, 1, 2}); got != 3 {
		t.Error("the walk that only touches the arcs costs", got)
	}
}

// invalidTurns are lists of turns of the example that break one rule each.
func invalidTurns() map[string][]impl.Turn {
	lists := map[string][]impl.Turn{}
	for name, turn := range map[string]impl.Turn{
		"In negative":        {In: -1, Out: 0},
		"In too large":       {In: 6, Out: 0},
		"In smallest":        {In: math.MinInt, Out: 0},
		"In largest":         {In: math.MaxInt, Out: 0},
		"Out negative":       {In: 0, Out: -1},
		"Out too large":      {In: 0, Out: 6},
		"Out smallest":       {In: 0, Out: math.MinInt},
		"Out largest":        {In: 0, Out: math.MaxInt},
		"Out begins apart":   {In: 0, Out: 3},
		"Out is In":          {In: 1, Out: 1},
		"Out leads to In":    {In: 1, Out: 0},
		"Out begins with In": {In: 0, Out: 2},
		"Out ends with In":   {In: 1, Out: 2},
		"Cost too small":     {In: 1, Out: 3, Cost: -2},
		"Cost smallest":      {In: 1, Out: 3, Cost: math.MinInt},
		"Cost one too large": {In: 1, Out: 3, Cost: impl.CostMax + 1},
		"Cost largest":       {In: 1, Out: 3, Cost: math.MaxInt},
		"same again":         exampleTurns()[0],
		"same pair again":    {In: 2, Out: 3, Cost: 7},
	} {
		lists[name] = append(exampleTurns(), turn)
		lists[name+", first"] = slices.Concat([]impl.Turn{turn}, exampleTurns())
	}
	lists["In and Out are no arcs, alone"] = []impl.Turn{{In: 6, Out: 6}}
	lists["far too many"] = make([]impl.Turn, 1000)
	return lists
}

// checkNoTurns expects the fixed results for invalid turns, or in an invalid graph.
func checkNoTurns(t *testing.T, n impl.Net, turns []impl.Turn) {
	t.Helper()
	if impl.TurnsOk(n, turns) {
		t.Error("TurnsOk is true")
	}
	for _, w := range [][]int{nil, {0}, {1, 3}} {
		if got := impl.TurnWalk(n, turns, w); got != -1 {
			t.Errorf("the walk %v costs %d", w, got)
		}
	}
	for _, from := range []int{-1, 0, 1, n.Nodes} {
		if got := impl.TurnAll(n, turns, from); len(got) != 0 {
			t.Error("costs from", from, "are", got)
		}
	}
	if got, ok := impl.TurnNet(n, turns); ok || got.Nodes != 0 || len(got.Arcs) != 0 {
		t.Error("the line graph is", got, ok)
	}
}

func TestInvalidTurns(t *testing.T) {
	for name, turns := range invalidTurns() {
		t.Run(name, func(t *testing.T) { checkNoTurns(t, example(), turns) })
	}
}

func TestTurnsInAnInvalidGraph(t *testing.T) {
	eachInvalidNet(t, func(t *testing.T, n impl.Net) {
		checkNoTurns(t, n, nil)
		checkNoTurns(t, n, exampleTurns())
	})
}

func TestTurnsWithoutArcs(t *testing.T) {
	n := impl.Net{Nodes: 2}
	if !impl.TurnsOk(n, nil) || impl.TurnWalk(n, nil, nil) != 0 {
		t.Error("no turns are invalid without arcs")
	}
	if got := impl.TurnAll(n, nil, 1); !slices.Equal(got, []int{impl.Far, 0}) {
		t.Error("costs without arcs are", got)
	}
	if got, ok := impl.TurnNet(n, nil); ok || got.Nodes != 0 || len(got.Arcs) != 0 {
		t.Error("the line graph without arcs is", got, ok)
	}
	checkNoTurns(t, n, []impl.Turn{{}})
}

func TestTurnsOfNoWalk(t *testing.T) {
	for _, n := range []impl.Net{example(), twins(), largest()} {
		for _, w := range noWalks(n) {
			if got := impl.TurnWalk(n, nil, w); got != -1 {
				t.Errorf("in %v the list %v costs %d", n, w, got)
			}
		}
		for _, node := range noNodes(n) {
			if got := impl.TurnAll(n, nil, node); len(got) != 0 {
				t.Errorf("in %v costs from %d are %v", n, node, got)
			}
		}
	}
}

func TestTurnsAtTheLimits(t *testing.T) {
	n := largest()
	turns := allTurns(n)
	if len(turns) <= impl.TurnsMax || !impl.TurnsOk(n, turns[:impl.TurnsMax]) {
		t.Error("as many turns as there may be are invalid")
	}
	checkNoTurns(t, n, turns[:impl.TurnsMax+1])
	for _, cost := range []int{-1, 0, impl.CostMax} {
		if !impl.TurnsOk(example(), []impl.Turn{{In: 1, Out: 3, Cost: cost}}) {
			t.Error("a turn that costs", cost, "is invalid")
		}
	}
	// The longest walk, with the largest costs of its arcs and of its turns.
	ring := costs(2, [3]int{0, 1, impl.CostMax}, [3]int{1, 0, impl.CostMax})
	both := []impl.Turn{{In: 0, Out: 1, Cost: impl.CostMax}, {In: 1, Out: 0, Cost: impl.CostMax}}
	w := slices.Repeat([]int{0, 1}, impl.WalkMax/2)
	if got := impl.TurnWalk(ring, both, w); got != (2*impl.WalkMax-1)*impl.CostMax {
		t.Error("the dearest walk costs", got)
	}
	if got := impl.TurnWalk(ring, both, append(w, 0)); got != -1 {
		t.Error("a walk with one arc too many costs", got)
	}
}

// checkLine expects that a graph has a line graph with so many arcs, or none if that is -1.
func checkLine(t *testing.T, n impl.Net, turns []impl.Turn, arcs int) {
	t.Helper()
	if !impl.TurnsOk(n, turns) {
		t.Fatal("the turns are invalid:", turns)
	}
	got, ok := impl.TurnNet(n, turns)
	if ok != (arcs >= 0) || len(got.Arcs) != max(arcs, 0) || ok && got.Nodes != len(n.Arcs) || !ok && got.Nodes != 0 {
		t.Errorf("the line graph of %v is %v %v", n, got, ok)
	}
}

func TestLineGraphAtTheLimits(t *testing.T) {
	path := longest()
	checkLine(t, path, nil, 6)
	path.Arcs = append(path.Arcs, impl.Arc{From: 7, To: 0})
	checkLine(t, path, nil, 8)
	path.Arcs = append(path.Arcs, impl.Arc{From: 0, To: 7})
	checkLine(t, path, nil, -1)
	// Four arcs into a node and four out of it: as many turns as there may be arcs.
	cross := costs(3, [3]int{0, 1, 0}, [3]int{0, 1, 0}, [3]int{0, 1, 0}, [3]int{0, 1, 0}, [3]int{1, 2, 0}, [3]int{1, 2, 0}, [3]int{1, 2, 0}, [3]int{1, 2, 0})
	checkLine(t, cross, nil, impl.ArcsMax)
	// One of the arcs out of it turned back has four turns more, which are too many until all are forbidden.
	cross.Arcs[7].To = 0
	back := []impl.Turn{{In: 7, Out: 0, Cost: -1}, {In: 7, Out: 1, Cost: -1}, {In: 7, Out: 2, Cost: -1}, {In: 7, Out: 3, Cost: -1}}
	checkLine(t, cross, back[:3], -1)
	checkLine(t, cross, back, impl.ArcsMax)
}

func TestLineGraphOfLargestCosts(t *testing.T) {
	n := costs(3, [3]int{0, 1, impl.CostMax}, [3]int{1, 2, 60})
	checkLine(t, n, []impl.Turn{{In: 0, Out: 1, Cost: impl.CostMax - 60}}, 1)
	checkLine(t, n, []impl.Turn{{In: 0, Out: 1, Cost: impl.CostMax - 59}}, -1)
	checkLine(t, n, []impl.Turn{{In: 0, Out: 1, Cost: -1}}, 0)
	one := costs(2, [3]int{0, 1, impl.CostMax})
	checkLine(t, one, nil, 0)
}

// P17
func TestTurnsOnlyAddCost(t *testing.T) {
	eachTurnWalk(t, func(t *testing.T, n impl.Net, turns []impl.Turn, w []int) {
		got := impl.TurnWalk(n, turns, w)
		if want := costWithTurns(n, turns, w); got != want {
			t.Errorf("with the turns %v the walk %v costs %d, not %d", turns, w, got, want)
		}
		if got != -1 && got < impl.WalkCost(n, w) {
			t.Errorf("with the turns %v the walk %v costs less", turns, w)
		}
		if impl.TurnWalk(n, nil, w) != impl.WalkCost(n, w) {
			t.Errorf("without turns the walk %v does not cost what it costs", w)
		}
	})
}

// P18
func TestSubsetsOfTurnListsAreValid(t *testing.T) {
	eachTurns(t, func(t *testing.T, n impl.Net, turns []impl.Turn) {
		if !impl.TurnsOk(n, turns) {
			t.Error("they are invalid")
		}
		for i, turn := range turns {
			if less := slices.Delete(slices.Clone(turns), i, i+1); !impl.TurnsOk(n, less) || !impl.TurnsOk(n, turns[:i]) {
				t.Error("a part is invalid:", less, turns[:i])
			}
			twice := slices.Clone(turns[:min(len(turns), impl.TurnsMax-1)])
			turn.Cost = (turn.Cost + 2) % impl.CostMax
			if i < len(twice) && (impl.TurnsOk(n, append(twice, turn)) || impl.TurnsOk(n, append(twice, turns[i]))) {
				t.Error("twice the turn", turn, "is valid")
			}
		}
	})
}

// P19
func TestDistancesWithTurnsAreNoSmaller(t *testing.T) {
	eachTurns(t, func(t *testing.T, n impl.Net, turns []impl.Turn) {
		for from, near := range allNear(n) {
			if got := impl.TurnAll(n, nil, from); !slices.Equal(got, near) {
				t.Error("without turns, costs from", from, "are", got)
			}
			got := impl.TurnAll(n, turns, from)
			if len(got) != n.Nodes || got[from] != 0 {
				t.Fatal("costs from", from, "are", got)
			}
			for to, cost := range got {
				if cost < near[to] {
					t.Error("from", from, "to", to, "turns make it cost less:", cost)
				}
			}
		}
	})
}

// P20
func TestTurnAllIsALowerBoundForWalks(t *testing.T) {
	eachTurnWalk(t, func(t *testing.T, n impl.Net, turns []impl.Turn, w []int) {
		cost := impl.TurnWalk(n, turns, w)
		if len(w) == 0 || cost == -1 {
			return
		}
		nodes := impl.WalkNodes(n, w)
		if least := impl.TurnAll(n, turns, nodes[0])[nodes[len(w)]]; least > cost {
			t.Errorf("with the turns %v the walk %v costs %d, less than %d", turns, w, cost, least)
		}
	})
}

// P20: the bound is attained, too.
func TestTurnAllAgreesWithTryingAllWalks(t *testing.T) {
	eachTurns(t, func(t *testing.T, n impl.Net, turns []impl.Turn) {
		for from := range n.Nodes {
			got, want := impl.TurnAll(n, turns, from), cheapestWithTurns(n, turns, from)
			if !slices.Equal(got, want) {
				t.Error("costs from", from, "are", got, "not", want)
			}
		}
	})
}

// viaLine is the cost from a node to each by the line graph.
func viaLine(n impl.Net, line impl.Net, from int) []int {
	best := slices.Repeat([]int{impl.Far}, n.Nodes)
	for first, a := range n.Arcs {
		if a.From != from {
			continue
		}
		for last, cost := range impl.NearAll(line, first) {
			to := n.Arcs[last].To
			if cost != impl.Far {
				best[to] = min(best[to], a.Cost+cost)
			}
		}
	}
	best[from] = 0
	return best
}

// lineByHand is the line graph by its definition. It may be invalid.
func lineByHand(n impl.Net, turns []impl.Turn) impl.Net {
	line := impl.Net{Nodes: len(n.Arcs)}
	for _, turn := range allTurns(n) {
		if cost := turnCost(turns, turn.In, turn.Out); cost != -1 {
			line.Arcs = append(line.Arcs, impl.Arc{From: turn.In, To: turn.Out, Cost: cost + n.Arcs[turn.Out].Cost, Load: impl.LoadMax})
		}
	}
	return line
}

// P21
func TestLineGraphRepresentsTurns(t *testing.T) {
	compared := 0
	eachTurns(t, func(t *testing.T, n impl.Net, turns []impl.Turn) {
		line, ok := impl.TurnNet(n, turns)
		want := lineByHand(n, turns)
		if !impl.NetOk(want) {
			want = impl.Net{}
		}
		if ok != (want.Nodes > 0) || !sameNet(line, want) {
			t.Error("the line graph is", line, ok, "not", want)
		}
		if !ok {
			return
		}
		compared++
		for from := range n.Nodes {
			if got := impl.TurnAll(n, turns, from); !slices.Equal(got, viaLine(n, line, from)) {
				t.Error("costs from", from, "are", got, "but by the line graph", viaLine(n, line, from))
			}
		}
	})
	if compared < 100 {
		t.Error("only", compared, "line graphs are valid")
	}
}

// P105
func TestTurnCostsCloseNothing(t *testing.T) {
	eachTurns(t, func(t *testing.T, n impl.Net, turns []impl.Turn) {
		strict := slices.DeleteFunc(slices.Clone(turns), func(turn impl.Turn) bool { return turn.Cost != -1 })
		for from := range n.Nodes {
			less := impl.TurnAll(n, strict, from)
			for to, cost := range impl.TurnAll(n, turns, from) {
				if less[to] > cost || (less[to] == impl.Far) != (cost == impl.Far) {
					t.Error("from", from, "to", to, "it costs", cost, "but only with forbidden turns", less[to])
				}
			}
		}
	})
}

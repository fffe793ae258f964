package tests

import (
	"slices"
	"testing"

	"loop.example/waymark/impl"
)

// given are arguments whose slices have spare capacity that holds marks, so that writing into it shows.
type given struct {
	net   impl.Net
	walk  []int
	rest  []int
	nodes [2]int
}

// call is a function of the package; its result is returned as its slices, of arcs or of numbers.
type call struct {
	name string
	run  func(g given) ([]impl.Arc, []int)
}

func calls() []call {
	return []call{
		{"NetOk", func(g given) ([]impl.Arc, []int) { impl.NetOk(g.net); return nil, nil }},
		{"NetOut", func(g given) ([]impl.Arc, []int) { return nil, impl.NetOut(g.net, g.nodes[0]) }},
		{"NetBack", func(g given) ([]impl.Arc, []int) { return impl.NetBack(g.net).Arcs, nil }},
		{"NetPut", func(g given) ([]impl.Arc, []int) { impl.NetPut(g.net); return nil, nil }},
		{"NetGet", func(g given) ([]impl.Arc, []int) { n, _ := impl.NetGet(impl.NetPut(g.net)); return n.Arcs, nil }},
		{"WalkOk", func(g given) ([]impl.Arc, []int) { impl.WalkOk(g.net, g.walk); return nil, nil }},
		{"WalkCost", func(g given) ([]impl.Arc, []int) { impl.WalkCost(g.net, g.walk); return nil, nil }},
		{"WalkNodes", func(g given) ([]impl.Arc, []int) { return nil, impl.WalkNodes(g.net, g.walk) }},
		{"WalkJoin", func(g given) ([]impl.Arc, []int) { w, _ := impl.WalkJoin(g.net, g.walk, g.rest); return nil, w }},
		{"WalkJoin, nothing first", func(g given) ([]impl.Arc, []int) { w, _ := impl.WalkJoin(g.net, nil, g.walk); return nil, w }},
		{"WalkJoin, nothing last", func(g given) ([]impl.Arc, []int) { w, _ := impl.WalkJoin(g.net, g.walk, nil); return nil, w }},
		{"WalkPlain", func(g given) ([]impl.Arc, []int) { return nil, impl.WalkPlain(g.net, g.walk) }},
		{"WalkPlain of the rest", func(g given) ([]impl.Arc, []int) { return nil, impl.WalkPlain(g.net, g.rest) }},
		{"NearAll", func(g given) ([]impl.Arc, []int) { return nil, impl.NearAll(g.net, g.nodes[0]) }},
		{"NearTo", func(g given) ([]impl.Arc, []int) { return nil, impl.NearTo(g.net, g.nodes[0]) }},
		{"NearWalk", func(g given) ([]impl.Arc, []int) { w, _ := impl.NearWalk(g.net, g.nodes[0], g.nodes[1]); return nil, w }},
		{"NearTree", func(g given) ([]impl.Arc, []int) { return nil, impl.NearTree(g.net, g.nodes[0]) }},
	}
}

// withSpare is a copy of a list with marks in its spare capacity.
func withSpare[T any](list []T, mark T) []T {
	spare := slices.Concat(list, slices.Repeat([]T{mark}, 40))
	return spare[:len(list)]
}

// whole is a copy of a list with its spare capacity.
func whole[T any](list []T) []T {
	return slices.Clone(list[:cap(list)])
}

// fill overwrites a list and its spare capacity.
func fill[T any](list []T, mark T) {
	for i := range list[:cap(list)] {
		list[:cap(list)][i] = mark
	}
}

var spoiltArc = impl.Arc{From: -7, To: -7, Cost: -7, Toll: -7, Load: -7}

// prepare copies arguments into memory of their own.
func prepare(g given) given {
	mark := impl.Arc{From: -5, To: -5, Cost: -5, Toll: -5, Load: -5}
	g.net.Arcs = withSpare(g.net.Arcs, mark)
	g.walk = withSpare(g.walk, -5)
	g.rest = withSpare(g.rest, -5)
	return g
}

// snapshot is a copy of arguments with all their spare capacity.
func snapshot(g given) given {
	g.net.Arcs, g.walk, g.rest = whole(g.net.Arcs), whole(g.walk), whole(g.rest)
	return g
}

// unchanged says whether arguments are as they were, and their spare capacity too.
func unchanged(g given, before given) bool {
	now := snapshot(g)
	return sameNet(now.net, before.net) && slices.Equal(now.walk, before.walk) && slices.Equal(now.rest, before.rest)
}

// givens are arguments, with walks that have a common node, and some that are invalid.
func givens() []given {
	r := source()
	var list []given
	for _, n := range validNets()[:60] {
		w := wander(r, n, 0, impl.WalkMax)
		at := r.IntN(len(w) + 1)
		list = append(list, given{n, w[:at], w[at:], [2]int{0, n.Nodes - 1}})
	}
	list = append(list,
		given{example(), []int{0, 1, 3}, []int{4, 2}, [2]int{0, 3}},
		given{example(), []int{0, 9}, []int{-1}, [2]int{4, 0}},
	)
	for _, n := range invalidNets() {
		list = append(list, given{n, []int{0}, []int{1}, [2]int{0, 1}})
	}
	return list
}

// result is a copy of what a call returned.
type result struct {
	arcs    []impl.Arc
	numbers []int
}

func (r result) same(arcs []impl.Arc, numbers []int) bool {
	return slices.Equal(arcs, r.arcs) && slices.Equal(numbers, r.numbers)
}

// eachCall runs every function with all arguments, then a test with the arguments, how they were before, and the result.
func eachCall(t *testing.T, test func(c call, g given, before given, arcs []impl.Arc, numbers []int) bool) {
	t.Helper()
	for _, c := range calls() {
		for _, g := range givens() {
			g = prepare(g)
			before := snapshot(g)
			arcs, numbers := c.run(g)
			if !test(c, g, before, arcs, numbers) {
				t.Errorf("%s with %v", c.name, before)
			}
		}
	}
}

func TestNoFunctionChangesAnArgument(t *testing.T) {
	eachCall(t, func(c call, g given, before given, arcs []impl.Arc, numbers []int) bool {
		return unchanged(g, before)
	})
}

func TestResultsStayWhenArgumentsChange(t *testing.T) {
	eachCall(t, func(c call, g given, before given, arcs []impl.Arc, numbers []int) bool {
		want := result{slices.Clone(arcs), slices.Clone(numbers)}
		fill(g.net.Arcs, spoiltArc)
		fill(g.walk, -7)
		fill(g.rest, -7)
		return want.same(arcs, numbers)
	})
}

func TestArgumentsStayWhenResultsChange(t *testing.T) {
	eachCall(t, func(c call, g given, before given, arcs []impl.Arc, numbers []int) bool {
		fill(arcs, spoiltArc)
		fill(numbers, -7)
		return unchanged(g, before)
	})
}

func TestNoStateIsKeptBetweenCalls(t *testing.T) {
	eachCall(t, func(c call, g given, before given, arcs []impl.Arc, numbers []int) bool {
		want := result{slices.Clone(arcs), slices.Clone(numbers)}
		fill(arcs, spoiltArc)
		fill(numbers, -7)
		return want.same(c.run(g))
	})
}

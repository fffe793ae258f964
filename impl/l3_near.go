package impl

import "slices"

// length is what a walk costs, and how many arcs it has.
type length struct {
	cost int
	arcs int
}

// reached is a node, and the length of a walk to it.
type reached struct {
	node   int
	length length
}

// heap gives back what was pushed in the order of before, whatever the order of pushing.
type heap[T any] struct {
	items  []T
	before func(a T, b T) bool
}

// NearAll is what it costs to come from a node to each.
func NearAll(n Net, from int) []int {
	if !netHas(n, from) {
		return nil
	}
	return costsOf(lengthsFrom(n, from))
}

// NearTo is what it costs to come from each to a node.
func NearTo(n Net, to int) []int {
	return NearAll(NetBack(n), to)
}

// NearWalk is the best way from a node to another one.
func NearWalk(n Net, from int, to int) ([]int, bool) {
	if !netHas(n, from, to) {
		return nil, false
	}
	first := NearTree(n, to)
	var w []int
	for node := from; node != to; {
		arc := first[node]
		if arc < 0 {
			return nil, false
		}
		w = append(w, arc)
		node = n.Arcs[arc].To
	}
	return w, true
}

// NearTree is the arcs with which the best ways to a node begin.
func NearTree(n Net, to int) []int {
	if !netHas(n, to) {
		return nil
	}
	lengths := lengthsFrom(NetBack(n), to)
	first := make([]int, n.Nodes)
	for node := range first {
		first[node] = firstArc(n, lengths, node)
	}
	return first
}

// firstArc is the smallest arc with which a shortest way begins, where lengths are the ways to the goal, or -1.
// All shortest ways have equally many arcs, so the smallest arc at every node makes the smallest list.
func firstArc(n Net, lengths []length, node int) int {
	for arc := range arcsFrom(n, node) {
		a := n.Arcs[arc]
		// The goal and what cannot reach it have 0 arcs, which no arc attains.
		if lengths[a.To].plus(a) == lengths[node] {
			return arc
		}
	}
	return -1
}

// lengthsFrom is the lengths of the shortest ways from a node to each, with cost Far and 0 arcs if there is none.
// Ways that cost the same are compared by their arcs, so that arcs that cost nothing lead to no ring.
func lengthsFrom(n Net, from int) []length {
	lengths := slices.Repeat([]length{{cost: Far}}, n.Nodes)
	lengths[from] = length{}
	open := heap[reached]{before: sooner}
	open.push(reached{node: from})
	for len(open.items) > 0 {
		next := open.pop()
		// A shorter way may have been found since this one was pushed.
		if next.length != lengths[next.node] {
			continue
		}
		for arc := range arcsFrom(n, next.node) {
			a := n.Arcs[arc]
			longer := next.length.plus(a)
			if longer.less(lengths[a.To]) {
				lengths[a.To] = longer
				open.push(reached{node: a.To, length: longer})
			}
		}
	}
	return lengths
}

// costsOf is the costs of lengths.
func costsOf(lengths []length) []int {
	costs := make([]int, len(lengths))
	for i, l := range lengths {
		costs[i] = l.cost
	}
	return costs
}

// sooner says whether the first of two is reached by a shorter walk.
func sooner(a reached, b reached) bool {
	return a.length.less(b.length)
}

// less compares by cost, then by arcs.
func (l length) less(other length) bool {
	if l.cost != other.cost {
		return l.cost < other.cost
	}
	return l.arcs < other.arcs
}

// plus is the length of a walk with one more arc.
func (l length) plus(a Arc) length {
	return length{cost: l.cost + a.Cost, arcs: l.arcs + 1}
}

// push puts an item into the heap.
func (h *heap[T]) push(item T) {
	h.items = append(h.items, item)
	for i := len(h.items) - 1; i > 0; {
		parent := (i - 1) / 2
		if !h.before(h.items[i], h.items[parent]) {
			return
		}
		h.items[i], h.items[parent] = h.items[parent], h.items[i]
		i = parent
	}
}

// pop takes the first item out of a heap that is not empty.
func (h *heap[T]) pop() T {
	top := h.items[0]
	last := len(h.items) - 1
	h.items[0] = h.items[last]
	h.items = h.items[:last]
	h.sink()
	return top
}

// sink moves the item at the root down to its place.
func (h *heap[T]) sink() {
	for i := 0; ; {
		first := i
		for child := 2*i + 1; child <= 2*i+2 && child < len(h.items); child++ {
			if h.before(h.items[child], h.items[first]) {
				first = child
			}
		}
		if first == i {
			return
		}
		h.items[i], h.items[first] = h.items[first], h.items[i]
		i = first
	}
}

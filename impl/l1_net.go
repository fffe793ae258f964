package impl

import (
	"iter"
	"slices"
	"strconv"
	"strings"
)

// Limits of nets; Far is what nothing costs.
const (
	NodesMax = 8
	ArcsMax  = 16
	CostMax  = 99
	LoadMax  = 9
	Far      = 99999
)

// netWord begins the encoding of a net.
const netWord = "net "

// Arc leads from a node to another one, with a cost, a toll, and what may go over it.
type Arc struct {
	From int
	To   int
	Cost int
	Toll int
	Load int
}

// Net is how many nodes there are, and arcs.
type Net struct {
	Nodes int
	Arcs  []Arc
}

// NetOk says whether a net is ok.
func NetOk(n Net) bool {
	if n.Nodes < 1 || n.Nodes > NodesMax || len(n.Arcs) > ArcsMax {
		return false
	}
	for _, a := range n.Arcs {
		if !arcOk(a, n.Nodes) {
			return false
		}
	}
	return true
}

// NetOut is arcs that begin at a node.
func NetOut(n Net, node int) []int {
	if !NetOk(n) {
		return nil
	}
	return slices.Collect(arcsFrom(n, node))
}

// NetBack is a net with all arcs turned round.
func NetBack(n Net) Net {
	if !NetOk(n) {
		return Net{}
	}
	back := Net{Nodes: n.Nodes, Arcs: slices.Clone(n.Arcs)}
	for i, a := range n.Arcs {
		back.Arcs[i].From, back.Arcs[i].To = a.To, a.From
	}
	return back
}

// NetPut writes a net.
func NetPut(n Net) string {
	if !NetOk(n) {
		return ""
	}
	var b strings.Builder
	b.WriteString(netWord + strconv.Itoa(n.Nodes) + "\n")
	for _, a := range n.Arcs {
		b.WriteString(arcPut(a))
	}
	return b.String()
}

// NetGet reads a net.
func NetGet(s string) (Net, bool) {
	head, rest, _ := strings.Cut(s, "\n")
	word, found := strings.CutPrefix(head, netWord)
	nodes, err := strconv.Atoi(word)
	if !found || err != nil {
		return Net{}, false
	}
	n := Net{Nodes: nodes}
	for rest != "" && len(n.Arcs) <= ArcsMax {
		var line string
		line, rest, _ = strings.Cut(rest, "\n")
		a, ok := arcGet(line)
		if !ok {
			return Net{}, false
		}
		n.Arcs = append(n.Arcs, a)
	}
	// A net has exactly one encoding: comparing with it rejects how else
	// the number of nodes can be written, and a missing newline.
	if !NetOk(n) || NetPut(n) != s {
		return Net{}, false
	}
	return n, true
}

// arcOk says whether an arc is ok in a net with so many nodes.
func arcOk(a Arc, nodes int) bool {
	return within(a.From, nodes-1) && within(a.To, nodes-1) && a.From != a.To &&
		within(a.Cost, CostMax) && within(a.Toll, CostMax) && within(a.Load, LoadMax)
}

// arcPut writes an arc as a line.
func arcPut(a Arc) string {
	return strconv.Itoa(a.From) + " " + strconv.Itoa(a.To) + " " + strconv.Itoa(a.Cost) + " " +
		strconv.Itoa(a.Toll) + " " + strconv.Itoa(a.Load) + "\n"
}

// arcGet reads an arc, which need not be ok, from a line without its newline.
func arcGet(line string) (Arc, bool) {
	numbers, ok := numbersGet(strings.Split(line, " "))
	if !ok || len(numbers) != 5 {
		return Arc{}, false
	}
	return Arc{From: numbers[0], To: numbers[1], Cost: numbers[2], Toll: numbers[3], Load: numbers[4]}, true
}

// numbersGet reads words that are numbers, without leading zeros or needless signs.
func numbersGet(words []string) ([]int, bool) {
	var numbers []int
	for _, word := range words {
		number, err := strconv.Atoi(word)
		if err != nil || strconv.Itoa(number) != word {
			return nil, false
		}
		numbers = append(numbers, number)
	}
	return numbers, true
}

// arcsFrom yields the arcs that begin at a node, in ascending order.
func arcsFrom(n Net, node int) iter.Seq[int] {
	return func(yield func(int) bool) {
		for i, a := range n.Arcs {
			if a.From == node && !yield(i) {
				return
			}
		}
	}
}

// within says whether a number is in 0..most.
func within(number int, most int) bool {
	return number >= 0 && number <= most
}

// allWithin says whether all numbers are in 0..most.
func allWithin(numbers []int, most int) bool {
	for _, number := range numbers {
		if !within(number, most) {
			return false
		}
	}
	return true
}

// netHas says whether a net is ok and has all of these nodes.
func netHas(n Net, nodes ...int) bool {
	return NetOk(n) && allWithin(nodes, n.Nodes-1)
}

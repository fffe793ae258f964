package tests

import (
	"slices"
	"strings"
	"testing"

	"loop.example/waymark/impl"
)

const exampleText = "net 4\n0 1 5 0 9\n1 2 4 2 5\n0 2 12 0 3\n2 3 1 0 9\n3 0 2 0 9\n1 3 9 1 9\n"

func TestNetOkAcceptsValidGraphsAndLimits(t *testing.T) {
	eachNet(t, func(t *testing.T, n impl.Net) {
		if !impl.NetOk(n) {
			t.Error("a valid graph is rejected")
		}
	})
}

func TestNetOkRejectsInvalidGraphs(t *testing.T) {
	eachInvalidNet(t, func(t *testing.T, n impl.Net) {
		if impl.NetOk(n) {
			t.Error("an invalid graph is accepted")
		}
	})
}

func TestNetOutLists(t *testing.T) {
	n := example()
	want := [][]int{{0, 2}, {1, 5}, {3}, {4}}
	for node, arcs := range want {
		if got := impl.NetOut(n, node); !slices.Equal(got, arcs) {
			t.Errorf("NetOut(%d) is %v, not %v", node, got, arcs)
		}
	}
	for _, node := range noNodes(n) {
		if got := impl.NetOut(n, node); len(got) != 0 {
			t.Errorf("NetOut(%d) is %v, but no arc leaves what is not a node", node, got)
		}
	}
	if got := impl.NetOut(twins(), 0); !slices.Equal(got, []int{0, 1, 2}) {
		t.Error("of arcs between the same nodes, these leave:", got)
	}
}

func TestNetBackTurnsArcs(t *testing.T) {
	back := impl.NetBack(example())
	for i, a := range example().Arcs {
		want := impl.Arc{From: a.To, To: a.From, Cost: a.Cost, Toll: a.Toll, Load: a.Load}
		if back.Nodes != 4 || len(back.Arcs) != 6 || back.Arcs[i] != want {
			t.Errorf("the reverse graph is %v", back)
		}
	}
}

func TestInvalidGraphsHaveFixedResults(t *testing.T) {
	eachInvalidNet(t, func(t *testing.T, n impl.Net) {
		for _, node := range []int{-1, 0, 1, n.Nodes} {
			if got := impl.NetOut(n, node); len(got) != 0 {
				t.Error("NetOut", got)
			}
		}
		if got := impl.NetBack(n); !sameNet(got, impl.Net{}) {
			t.Error("NetBack", got)
		}
		if got := impl.NetPut(n); got != "" {
			t.Error("NetPut", got)
		}
	})
}

func TestNetPutWritesLines(t *testing.T) {
	for text, n := range map[string]impl.Net{
		exampleText: example(),
		"net 1\n":   {Nodes: 1},
		"net 8\n":   {Nodes: 8},
		"net 2\n1 0 99 99 9\n0 1 0 0 0\n0 1 0 0 0\n": {Nodes: 2, Arcs: []impl.Arc{
			{From: 1, To: 0, Cost: 99, Toll: 99, Load: 9}, {From: 0, To: 1}, {From: 0, To: 1}}},
	} {
		if got := impl.NetPut(n); got != text {
			t.Errorf("NetPut is %q, not %q", got, text)
		}
	}
}

// P1
func TestDecodingInvertsEncoding(t *testing.T) {
	eachNet(t, func(t *testing.T, n impl.Net) {
		got, ok := impl.NetGet(impl.NetPut(n))
		if !ok || !sameNet(got, n) {
			t.Error("NetGet of NetPut is", got, ok)
		}
	})
}

func wrongTexts() []string {
	texts := []string{
		"", "\n", "net", "net\n", "net \n", "net 4", " net 4\n", "net  4\n", "net 4 \n", "net 4\n\n", "\nnet 4\n",
		"nat 4\n", "Net 4\n", "4\n", "net 04\n", "net +4\n", "net -4\n", "net 4.0\n", "net 0x4\n", "net 4\r\n", "net 4\x00\n", "net four\n",
		"net 0\n", "net 9\n", "net 10\n", "net 99999999999999999999\n", "net 18446744073709551620\n", "net 1_0\n",
		"net 4net 4\n", "net 4\nnet 4\n", "0 1 5 0 9\n", "net 4 0 1 5 0 9\n",
		"net 1\n0 0 1 0 0\n", "net 1\n0 1 1 0 0\n",
	}
	arcs := []string{
		"0 1 5 0", "0 1 5 0 9 0", "0 1 5 0 9 ", " 0 1 5 0 9", "0  1 5 0 9", "0\t1 5 0 9", "0,1,5,0,9", "0 1 5 0 9\r", "",
		"00 1 5 0 9", "0 01 5 0 9", "0 1 05 0 9", "0 1 5 00 9", "0 1 5 0 09", "0 1 5 -0 9", "+0 1 5 0 9", "0 1 +5 0 9", "0 1 5 0 x", "x 1 5 0 9",
		"4 1 5 0 9", "0 4 5 0 9", "-1 1 5 0 9", "0 -1 5 0 9", "1 1 5 0 9",
		"0 1 100 0 9", "0 1 -1 0 9", "0 1 5 100 9", "0 1 5 -1 9", "0 1 5 0 10", "0 1 5 0 -1",
		"0 1 18446744073709551616 0 9", "0 1 5 0 18446744073709551625", "0 1 1_0 0 9", "0 1 5 0 ９",
	}
	for _, a := range arcs {
		texts = append(texts, "net 4\n"+a+"\n", "net 4\n2 3 1 0 0\n"+a+"\n", "net 4\n"+a+"\n2 3 1 0 0\n")
	}
	texts = append(texts, "net 4\n0 1 5 0 9")
	full := impl.NetPut(largest())
	return append(texts, full+"0 1 0 0 0\n", full+strings.Repeat("0 1 0 0 0\n", 100), full+"\n", full+"x", full+full)
}

func TestNetGetRejectsOtherTexts(t *testing.T) {
	for _, text := range wrongTexts() {
		if n, ok := impl.NetGet(text); ok || !sameNet(n, impl.Net{}) {
			t.Errorf("NetGet(%q) is %v %v", text, n, ok)
		}
	}
}

// changedTexts are texts that differ from s in one place.
func changedTexts(s string) []string {
	var texts []string
	for i := range len(s) + 1 {
		texts = append(texts, s[:i])
		for _, c := range "0123456789 \n-+xnet" {
			texts = append(texts, s[:i]+string(c)+s[i:])
			if i < len(s) {
				texts = append(texts, s[:i]+string(c)+s[i+1:])
			}
		}
		if i < len(s) {
			texts = append(texts, s[:i]+s[i+1:])
		}
	}
	return texts
}

// P2
func TestEncodingIsCanonical(t *testing.T) {
	accepted := 0
	for _, n := range []impl.Net{example(), twins(), largest(), {Nodes: 1}} {
		for _, text := range changedTexts(impl.NetPut(n)) {
			got, ok := impl.NetGet(text)
			if ok {
				accepted++
			}
			if ok && (!impl.NetOk(got) || impl.NetPut(got) != text) {
				t.Errorf("NetGet(%q) is %v, which is written %q", text, got, impl.NetPut(got))
			}
			if !ok && !sameNet(got, impl.Net{}) {
				t.Errorf("NetGet(%q) fails with %v", text, got)
			}
		}
	}
	if accepted < 100 {
		t.Error("too few texts are accepted:", accepted)
	}
}

// P3
func TestEveryArcLeavesOneNode(t *testing.T) {
	eachNet(t, func(t *testing.T, n impl.Net) {
		leaves := make([]int, len(n.Arcs))
		for node := range n.Nodes {
			out := impl.NetOut(n, node)
			if !slices.IsSorted(out) {
				t.Error("NetOut is not ascending:", out)
			}
			for _, arc := range out {
				leaves[arc]++
				if n.Arcs[arc].From != node {
					t.Errorf("arc %d does not leave node %d", arc, node)
				}
			}
		}
		for arc, times := range leaves {
			if times != 1 {
				t.Errorf("arc %d leaves %d nodes", arc, times)
			}
		}
	})
}

// P4
func TestReversingTwiceRestores(t *testing.T) {
	eachNet(t, func(t *testing.T, n impl.Net) {
		back := impl.NetBack(n)
		if !impl.NetOk(back) || !sameNet(impl.NetBack(back), n) {
			t.Error("reversed once:", back, "twice:", impl.NetBack(back))
		}
	})
}

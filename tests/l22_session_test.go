package tests

import (
	"math/rand/v2"
	"regexp"
	"slices"
	"strconv"
	"strings"
	"testing"

	"loop.example/waymark/impl"
)

// dialogue are lines, and what each one produces.
type dialogue [][2]string

// checkSession expects a dialogue.
func checkSession(t *testing.T, n impl.Net, d dialogue) {
	t.Helper()
	var lines []string
	for _, pair := range d {
		lines = append(lines, pair[0])
	}
	answers := strings.Split(impl.Session(n, lines), "\n")
	if len(answers) != len(d)+1 || answers[len(d)] != "" {
		t.Fatalf("%d lines produce %q", len(d), answers)
	}
	for i, pair := range d {
		if answers[i] != pair[1] {
			t.Errorf("line %d, %q, produces %q, not %q", i+1, pair[0], answers[i], pair[1])
		}
	}
}

// checkWhat expects that lines produce what and change nothing.
func checkWhat(t *testing.T, n impl.Net, lines ...string) {
	t.Helper()
	for _, line := range lines {
		checkSession(t, n, dialogue{{line, "what"}, {"news", "0 " + strconv.Itoa(len(n.Arcs))}})
	}
}

// queryPattern matches commands that are no events, with nodes that need not exist.
var queryPattern = regexp.MustCompile(`\A((near|way|both|most|ways) (0|[1-9][0-9]{0,5}) (0|[1-9][0-9]{0,5})|all (0|[1-9][0-9]{0,5})|news|parts)\z`)

// commas are numbers with a comma behind each.
func commas(numbers []int) string {
	text := ""
	for _, number := range numbers {
		text += strconv.Itoa(number) + ","
	}
	return text
}

// loadByHand is the largest load with which a node is reached, found by trying all of them, or -1.
func loadByHand(n impl.Net, from int, to int) int {
	load := impl.LoadMax
	for load >= 0 && impl.NearAll(impl.LoadNet(n, load), from)[to] == impl.Far {
		load--
	}
	return load
}

// partsByHand are the smallest nodes that each node reaches and is reached from.
func partsByHand(n impl.Net) []int {
	near := allNear(n)
	var parts []int
	for node := range n.Nodes {
		for other := range n.Nodes {
			if near[node][other] != impl.Far && near[other][node] != impl.Far {
				parts = append(parts, other)
				break
			}
		}
	}
	return parts
}

// wayByHand are the nodes of the first one of all simple walks.
func wayByHand(n impl.Net, from int, to int) string {
	if from == to {
		return commas([]int{from})
	}
	walks := impl.SomeWalks(n, from, to, 1)
	if len(walks) == 0 {
		return "none"
	}
	return commas(impl.WalkNodes(n, walks[0]))
}

// pairByHand is what a command with two nodes produces in the current graph.
func pairByHand(now impl.Net, word string, from int, to int) string {
	cost, looks := bothByHand(now, from, to)
	near := strconv.Itoa(cost)
	if cost == impl.Far {
		near = "none"
	}
	switch word {
	case "near":
		return near
	case "way":
		return wayByHand(now, from, to)
	case "both":
		return strconv.Itoa(looks) + " " + near
	case "most":
		return strconv.Itoa(loadByHand(now, from, to))
	}
	if from == to {
		return "what"
	}
	return strconv.Itoa(len(impl.SomeWalks(now, from, to, impl.SomeMax)))
}

// queryByHand is what a line that is no event produces.
func queryByHand(l impl.Live, line string) string {
	if !queryPattern.MatchString(line) {
		return "what"
	}
	now := nowByHand(l)
	words := strings.Split(line, " ")
	var nodes []int
	for _, word := range words[1:] {
		node, err := strconv.Atoi(word)
		if err != nil || node >= now.Nodes {
			return "what"
		}
		nodes = append(nodes, node)
	}
	switch words[0] {
	case "news":
		return strconv.Itoa(len(l.News)) + " " + strconv.Itoa(len(now.Arcs))
	case "parts":
		return commas(partsByHand(now))
	case "all":
		return commas(impl.NearAll(now, nodes[0]))
	}
	return pairByHand(now, words[0], nodes[0], nodes[1])
}

// sessionByHand is the output of a session, found line by line.
func sessionByHand(n impl.Net, lines []string) string {
	l := impl.Live{Net: n}
	output := ""
	for _, line := range lines[:min(len(lines), impl.SessionMax)] {
		if !eventPattern.MatchString(line) {
			output += queryByHand(l, line) + "\n"
			continue
		}
		e, _ := impl.EventGet(line)
		if next, ok := impl.LiveDo(l, e); ok {
			l = next
			output += "ok\n"
		} else {
			output += "no\n"
		}
	}
	return output
}

// someQuery is a line that asks, mostly about nodes of n.
func someQuery(r *rand.Rand, n impl.Net) string {
	node := func() string { return strconv.Itoa(r.IntN(n.Nodes + r.IntN(3)/2)) }
	switch word := []string{"near", "way", "both", "most", "ways", "all", "news", "parts"}[r.IntN(8)]; word {
	case "news", "parts":
		return word
	case "all":
		return word + " " + node()
	default:
		return word + " " + node() + " " + node()
	}
}

// someLines are lines that ask and tell, and some that do neither.
func someLines(r *rand.Rand, n impl.Net, many int) []string {
	var lines []string
	for range many {
		switch r.IntN(12) {
		case 0:
			lines = append(lines, noEvents()[r.IntN(len(noEvents())-2)])
		case 1, 2, 3, 4:
			lines = append(lines, textByHand(someEvent(r, n)))
		case 5:
			lines = append(lines, textByHand(told(1+r.IntN(impl.NewsIdMax), r.IntN(impl.ArcsMax), r.IntN(9)-1)))
		default:
			lines = append(lines, someQuery(r, n))
		}
	}
	return lines
}

func TestSessionExample(t *testing.T) {
	checkSession(t, example(), dialogue{
		{"near 0 3", "10"}, {"way 0 3", "0,1,2,3,"}, {"both 0 3", "3 10"}, {"most 0 3", "9"}, {"ways 0 3", "3"}, {"all 1", "7,0,4,5,"},
		{"shut 7 1", "ok"}, {"near 0 3", "13"}, {"way 0 3", "0,2,3,"}, {"news", "1 5"}, {"over 7", "ok"}, {"over 7", "no"},
		{"parts", "0,0,0,0,"}, {"ways 2 2", "what"}, {"near 0 4", "what"}, {"what", "what"}, {"shut 3 9", "no"}, {"near 1 1", "0"},
	})
}

func TestSessionWithoutLines(t *testing.T) {
	for _, n := range []impl.Net{example(), {Nodes: 1}, largest()} {
		for _, lines := range [][]string{nil, {}} {
			if got := impl.Session(n, lines); got != "" {
				t.Errorf("no lines produce %q", got)
			}
		}
	}
}

func TestSessionInInvalidNets(t *testing.T) {
	eachInvalidNet(t, func(t *testing.T, n impl.Net) {
		for _, lines := range [][]string{nil, {"news"}, {"near 0 0", "shut 1 0", "what"}, slices.Repeat([]string{"news"}, impl.SessionMax+1)} {
			if got := impl.Session(n, lines); got != "wrong\n" {
				t.Errorf("%q produces %q", lines, got)
			}
		}
	})
}

func TestSessionWhereNothingIsReached(t *testing.T) {
	checkSession(t, impl.Net{Nodes: 3}, dialogue{
		{"near 0 1", "none"}, {"way 0 1", "none"}, {"both 0 1", "1 none"}, {"most 0 1", "-1"}, {"ways 0 1", "0"},
		{"all 1", "99999,0,99999,"}, {"news", "0 0"}, {"parts", "0,1,2,"},
		{"near 2 2", "0"}, {"way 2 2", "2,"}, {"both 2 2", "0 0"}, {"most 2 2", "9"}, {"ways 2 2", "what"},
		{"shut 1 0", "no"}, {"over 1", "no"}, {"news", "0 0"},
	})
	checkSession(t, impl.Net{Nodes: 1}, dialogue{
		{"near 0 0", "0"}, {"way 0 0", "0,"}, {"both 0 0", "0 0"}, {"most 0 0", "9"}, {"ways 0 0", "what"}, {"all 0", "0,"}, {"parts", "0,"},
		{"near 0 1", "what"}, {"way 1 0", "what"}, {"both 1 1", "what"}, {"most 0 1", "what"}, {"ways 0 1", "what"}, {"all 1", "what"},
	})
}

func TestQueriesAreAboutTheCurrentGraph(t *testing.T) {
	checkSession(t, example(), dialogue{
		{"more 5 0 90", "ok"}, {"near 0 1", "95"}, {"way 0 3", "0,2,3,"}, {"both 0 3", "2 13"}, {"all 0", "0,95,12,13,"},
		{"more 6 0 90", "ok"}, {"near 0 1", "99"}, {"news", "2 6"},
		{"shut 4 4", "ok"}, {"parts", "0,1,2,3,"}, {"near 3 0", "none"}, {"way 3 0", "none"}, {"most 3 0", "-1"}, {"ways 3 0", "0"}, {"all 3", "99999,99999,99999,0,"},
		{"shut 3 0", "ok"}, {"news", "4 4"}, {"most 0 3", "3"}, {"ways 0 3", "1"}, {"near 0 1", "none"}, {"most 0 2", "3"},
		// Two incidents of the same arc: it is one arc fewer.
		{"shut 2 0", "ok"}, {"news", "5 4"}, {"over 3", "ok"}, {"news", "4 4"}, {"over 2", "ok"}, {"news", "3 5"}, {"near 0 1", "99"},
		{"over 5", "ok"}, {"near 0 1", "95"}, {"over 6", "ok"}, {"near 0 1", "5"}, {"over 4", "ok"}, {"parts", "0,0,0,0,"}, {"news", "0 6"},
	})
}

func TestWaysAreAtMostSix(t *testing.T) {
	n := costs(2)
	for many := range impl.SomeMax + 3 {
		checkSession(t, n, dialogue{{"ways 0 1", strconv.Itoa(min(many, impl.SomeMax))}, {"ways 1 0", "0"}})
		n.Arcs = append(n.Arcs, impl.Arc{From: 0, To: 1, Cost: many})
	}
}

func TestEventsInASession(t *testing.T) {
	checkSession(t, largest(), dialogue{
		// The limits of Ids, arcs and More, and one more than each.
		{"over 999", "no"}, {"over 1000", "what"}, {"over 0", "what"}, {"shut 999 15", "ok"}, {"shut 1000 15", "what"}, {"shut 999 16", "what"},
		{"more 999 15 99", "ok"}, {"more 999 15 100", "what"}, {"more 1 0 0", "ok"}, {"more 1 0 -1", "what"}, {"news", "2 16"},
		// The seventh incident is refused, but one can be replaced, or end.
		{"shut 2 1", "ok"}, {"shut 3 2", "ok"}, {"shut 4 3", "ok"}, {"shut 5 4", "ok"}, {"news", "6 12"},
		{"shut 6 5", "no"}, {"more 998 0 0", "no"}, {"news", "6 12"}, {"more 5 4 1", "ok"}, {"news", "6 13"}, {"over 999", "ok"}, {"shut 6 5", "ok"}, {"news", "6 12"}, {"over 999", "no"},
	})
	// What is an event, but cannot happen in this graph.
	checkSession(t, example(), dialogue{{"shut 1 5", "ok"}, {"shut 2 6", "no"}, {"more 1 15 1", "no"}, {"over 2", "no"}, {"news", "1 5"}})
}

func TestNodesThatDoNotExist(t *testing.T) {
	var lines []string
	for _, node := range []string{"4", "7", "8", "10", "99", "999999", "1000000", "99999999999999999999", "4294967296", "18446744073709551616"} {
		lines = append(lines, "all "+node)
		for _, word := range []string{"near", "way", "both", "most", "ways"} {
			lines = append(lines, word+" "+node+" 0", word+" 0 "+node, word+" "+node+" "+node)
		}
	}
	checkWhat(t, example(), lines...)
	checkSession(t, largest(), dialogue{{"near 0 7", "693"}, {"near 0 8", "what"}, {"all 7", "99,198,297,396,495,594,693,0,"}, {"all 8", "what"}})
}

func TestNumbersOfALine(t *testing.T) {
	var lines []string
	for _, number := range []string{
		"", " ", "-1", "-0", "+0", "+1", "00", "01", "001", "000000", "0000001", "100000", "999999", "1000000", "0.0", "1.", "1e0", "0x1", "1_0", "x", "1x", "x1", "1\n", "\n1", "1\r", "1\t", "1,", "１", "1\x00",
	} {
		lines = append(lines, "all "+number)
		for _, word := range []string{"near", "way", "both", "most", "ways"} {
			lines = append(lines, word+" "+number+" 0", word+" 0 "+number)
		}
	}
	checkWhat(t, example(), lines...)
}

func TestLinesThatAreNoCommands(t *testing.T) {
	checkWhat(t, example(),
		"", " ", "\n", "what", "wrong", "none", "ok", "no", "help", "0", "0 1", "near", "way", "both", "most", "ways", "all",
		"near 0", "way 0", "both 0", "most 0", "ways 0", "near 0 1 2", "way 0 1 2", "both 0 1 2", "most 0 1 2", "ways 0 1 2", "all 0 1", "news 0", "parts 0", "news 0 1",
		"near  0 1", "near 0  1", " near 0 1", "near 0 1 ", "news ", " news", "parts ", " parts", "all  0", "all 0 ", " all 0",
		"near\t0 1", "near 0 1\n", "news\n", "parts\r", "\nnews", "near,0,1", "near01", "all0", "near 0,1",
		"Near 0 1", "NEWS", "Parts", "nea 0 1", "nears 0 1", "new", "newss", "part", "alls 0", "way0 1", "0 near 1", "news news", "near 0 1 near 0 1",
		strings.Repeat("near 0 1 ", 1000), "near"+strings.Repeat(" 0", 5000), strings.Repeat("9", 10000),
	)
	checkWhat(t, example(), noEvents()...)
}

func TestSessionsLineByLine(t *testing.T) {
	r := source()
	eachNet(t, func(t *testing.T, n impl.Net) {
		for range 3 {
			lines := someLines(r, n, impl.SessionMax)
			if got, want := impl.Session(n, lines), sessionByHand(n, lines); got != want {
				t.Errorf("%q produces %q, not %q", lines, got, want)
			}
		}
	})
}

func TestSessionMax(t *testing.T) {
	for many := impl.SessionMax - 1; many <= impl.SessionMax+2; many++ {
		for line, answer := range map[string]string{"near 0 3": "10", "what": "what", "": "what", "shut 1 0": "ok", "over 1": "no"} {
			want := strings.Repeat(answer+"\n", min(many, impl.SessionMax))
			if got := impl.Session(example(), slices.Repeat([]string{line}, many)); got != want {
				t.Errorf("%d lines %q produce %q", many, line, got)
			}
		}
	}
	// Lines that are no commands count too.
	lines := append(slices.Repeat([]string{"what"}, impl.SessionMax-1), "news", "parts")
	if got, want := impl.Session(example(), lines), strings.Repeat("what\n", impl.SessionMax-1)+"0 6\n"; got != want {
		t.Errorf("the last line produces %q", got)
	}
}

// P94
func TestOutputDependsOnlyOnPrecedingLines(t *testing.T) {
	r := source()
	eachNet(t, func(t *testing.T, n impl.Net) {
		lines := someLines(r, n, impl.SessionMax+5)
		whole := impl.Session(n, lines)
		if strings.Count(whole, "\n") != impl.SessionMax {
			t.Errorf("%d lines produce %q", len(lines), whole)
		}
		answers := strings.SplitAfter(whole, "\n")
		for many := range lines {
			want := strings.Join(answers[:min(many, impl.SessionMax)], "")
			if got := impl.Session(n, lines[:many]); got != want {
				t.Errorf("the first %d lines of %q produce %q, not %q", many, lines, got, want)
			}
		}
	})
}

// P95
func TestQueriesChangeNothing(t *testing.T) {
	r := source()
	eachNet(t, func(t *testing.T, n impl.Net) {
		lines := someLines(r, n, impl.SessionMax/2)
		var asked []string
		for _, line := range lines {
			asked = append(asked, "way 0 1", line)
		}
		// Only events count for the lines behind them.
		answers := strings.Split(impl.Session(n, asked), "\n")
		for i, want := range strings.Split(strings.TrimSuffix(impl.Session(n, lines), "\n"), "\n") {
			if answers[2*i+1] != want {
				t.Errorf("line %d of %q produces %q, not %q", i, lines, answers[2*i+1], want)
			}
		}
		twice := slices.Concat(lines, []string{"way 0 1", "way 0 1"})
		answers = strings.Split(impl.Session(n, twice), "\n")
		if one, two := answers[len(lines)], answers[len(lines)+1]; one != two {
			t.Errorf("way 0 1 produces %q and then %q", one, two)
		}
	})
}

func TestSessionReadsLikeAJournal(t *testing.T) {
	r := source()
	eachNet(t, func(t *testing.T, n impl.Net) {
		j, lines := "", []string(nil)
		for range impl.SessionMax - 2 {
			e := someEvent(r, n)
			lines = append(lines, textByHand(e))
			if longer, ok := impl.JourAdd(n, j, e); ok {
				j = longer
			}
		}
		l, _ := impl.JourRead(n, j)
		want := queryByHand(l, "news") + "\n" + queryByHand(l, "all 0") + "\n"
		if got := impl.Session(n, append(lines, "news", "all 0")); !strings.HasSuffix(got, want) {
			t.Errorf("%q produces %q, but the journal %q leads to %q", lines, got, j, want)
		}
	})
}

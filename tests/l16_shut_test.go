package tests

import (
	"math"
	"math/rand/v2"
	"slices"
	"testing"

	"loop.example/waymark/impl"
)

// someNews are so many incidents of the arcs of n, which close an arc or increase its Cost by up to most.
func someNews(r *rand.Rand, n impl.Net, many int, most int) []impl.News {
	ids := r.Perm(impl.NewsIdMax)[:many]
	slices.Sort(ids)
	var news []impl.News
	for _, id := range ids {
		news = append(news, impl.News{Id: id + 1, Arc: r.IntN(len(n.Arcs)), More: r.IntN(most+2) - 1})
	}
	return news
}

// newsOf are incidents of one arc, with Ids from 1 on.
func newsOf(arc int, mores ...int) []impl.News {
	var news []impl.News
	for i, more := range mores {
		news = append(news, impl.News{Id: i + 1, Arc: arc, More: more})
	}
	return news
}

// someLives are the graph n with incidents: none, a few, as many as possible, or all of the same arc.
func someLives(r *rand.Rand, n impl.Net) []impl.Live {
	lives := []impl.Live{{Net: n}}
	if len(n.Arcs) == 0 {
		return lives
	}
	last := len(n.Arcs) - 1
	for _, news := range [][]impl.News{
		someNews(r, n, 1, 0), someNews(r, n, 2, 5), someNews(r, n, 3, impl.CostMax), someNews(r, n, impl.NewsMax, 20), someNews(r, n, impl.NewsMax, impl.CostMax),
		newsOf(0, -1, -1), newsOf(0, 3, 4), newsOf(last, 30, 40, 50), newsOf(last, 5, -1, 0), newsOf(0, impl.CostMax, 1, impl.CostMax, 1, impl.CostMax, 1),
	} {
		lives = append(lives, impl.Live{Net: n, News: news})
	}
	return lives
}

// eachLive runs a test for every valid graph with incidents.
func eachLive(t *testing.T, test func(t *testing.T, l impl.Live)) {
	t.Helper()
	r := source()
	eachNet(t, func(t *testing.T, n impl.Net) {
		for _, l := range someLives(r, n) {
			test(t, l)
			if t.Failed() {
				t.Error("with the incidents", l.News)
				return
			}
		}
	})
}

// invalidNews are incidents that are none in a graph with so many arcs.
func invalidNews(arcs int) map[string]impl.News {
	return map[string]impl.News{
		"Id 0":               {Id: 0},
		"Id negative":        {Id: -1},
		"Id one too large":   {Id: impl.NewsIdMax + 1},
		"Id smallest":        {Id: math.MinInt},
		"Id largest":         {Id: math.MaxInt},
		"Arc negative":       {Id: 5, Arc: -1},
		"Arc one too large":  {Id: 5, Arc: arcs},
		"Arc smallest":       {Id: 5, Arc: math.MinInt},
		"Arc largest":        {Id: 5, Arc: math.MaxInt},
		"More one too small": {Id: 5, More: -2},
		"More one too large": {Id: 5, More: impl.CostMax + 1},
		"More smallest":      {Id: 5, More: math.MinInt},
		"More largest":       {Id: 5, More: math.MaxInt},
		"nothing":            {},
	}
}

// invalidLives are a valid graph with incidents that break one rule.
func invalidLives() map[string]impl.Live {
	n := example()
	lives := map[string]impl.Live{
		"one incident too many": {Net: n, News: newsOf(0, 0, 0, 0, 0, 0, 0, 0)},
		"far too many":          {Net: n, News: newsOf(0, make([]int, 100)...)},
		"an Id twice":           {Net: n, News: []impl.News{{Id: 3}, {Id: 3, Arc: 1}}},
		"the same twice":        {Net: n, News: []impl.News{{Id: 3}, {Id: 3}}},
		"Ids descend":           {Net: n, News: []impl.News{{Id: 3}, {Id: 2}}},
		"the last Id is less":   {Net: n, News: []impl.News{{Id: 3}, {Id: 7}, {Id: 6}}},
		"no arc in the graph":   {Net: impl.Net{Nodes: 2}, News: []impl.News{{Id: 1}}},
		"no arc to be closed":   {Net: impl.Net{Nodes: 1}, News: []impl.News{{Id: 1, More: -1}}},
	}
	for name, w := range invalidNews(len(n.Arcs)) {
		lives[name] = impl.Live{Net: n, News: []impl.News{w}}
		before, behind := impl.News{Id: 1}, impl.News{Id: impl.NewsIdMax}
		lives[name+" last"] = impl.Live{Net: n, News: []impl.News{before, w}}
		lives[name+" first"] = impl.Live{Net: n, News: []impl.News{w, behind}}
	}
	for name, n := range invalidNets() {
		lives[name] = impl.Live{Net: n}
		lives[name+" with an incident"] = impl.Live{Net: n, News: []impl.News{{Id: 1}}}
	}
	return lives
}

func sameLive(a impl.Live, b impl.Live) bool {
	return sameNet(a.Net, b.Net) && slices.Equal(a.News, b.News)
}

// nowByHand is the current graph: all Costs are increased, then the arcs that are closed are taken out from the last one on.
func nowByHand(l impl.Live) impl.Net {
	arcs := slices.Clone(l.Net.Arcs)
	for _, w := range l.News {
		arcs[w.Arc].Cost += max(w.More, 0)
	}
	for i := len(arcs) - 1; i >= 0; i-- {
		arcs[i].Cost = min(arcs[i].Cost, impl.CostMax)
		if slices.ContainsFunc(l.News, func(w impl.News) bool { return w.Arc == i && w.More == -1 }) {
			arcs = slices.Delete(arcs, i, i+1)
		}
	}
	return impl.Net{Nodes: l.Net.Nodes, Arcs: arcs}
}

// without are incidents but for the one with an Id.
func without(news []impl.News, id int) []impl.News {
	return slices.DeleteFunc(slices.Clone(news), func(w impl.News) bool { return w.Id == id })
}

// toldByHand are incidents with one more, which replaces one with the same Id.
func toldByHand(news []impl.News, w impl.News) []impl.News {
	var before, behind []impl.News
	for _, other := range news {
		if other.Id < w.Id {
			before = append(before, other)
		} else if other.Id > w.Id {
			behind = append(behind, other)
		}
	}
	return slices.Concat(before, []impl.News{w}, behind)
}

// checkLiveNear expects a distance.
func checkLiveNear(t *testing.T, l impl.Live, from int, to int, want int) {
	t.Helper()
	if got := impl.LiveNear(l, from, to); got != want {
		t.Errorf("with %v the distance from %d to %d is %d, not %d", l.News, from, to, got, want)
	}
}

// checkNow expects the Costs of the arcs of the current graph.
func checkNow(t *testing.T, l impl.Live, want ...int) {
	t.Helper()
	if got := impl.LiveNow(l); got.Nodes != l.Net.Nodes || !slices.Equal(costsIn(got), want) {
		t.Errorf("with %v the current graph is %v, not one with the costs %v", l.News, got, want)
	}
}

// checkTell expects the incidents after one more.
func checkTell(t *testing.T, l impl.Live, w impl.News, want ...impl.News) impl.Live {
	t.Helper()
	got, ok := impl.LiveTell(l, w)
	if !ok || !sameLive(got, impl.Live{Net: l.Net, News: want}) {
		t.Errorf("LiveTell of %v to %v is %v %v, not %v", w, l.News, got, ok, want)
	}
	return got
}

// checkNoTell expects that an incident is refused.
func checkNoTell(t *testing.T, l impl.Live, w impl.News) {
	t.Helper()
	if got, ok := impl.LiveTell(l, w); ok || !sameLive(got, l) {
		t.Errorf("LiveTell of %v to %v is %v %v", w, l.News, got, ok)
	}
}

// checkOver expects the incidents after the end of one.
func checkOver(t *testing.T, l impl.Live, id int, want ...impl.News) impl.Live {
	t.Helper()
	got, ok := impl.LiveOver(l, id)
	if !ok || !sameLive(got, impl.Live{Net: l.Net, News: want}) {
		t.Errorf("LiveOver of %d in %v is %v %v, not %v", id, l.News, got, ok, want)
	}
	return got
}

// checkNoOver expects that there is no incident to end.
func checkNoOver(t *testing.T, l impl.Live, id int) {
	t.Helper()
	if got, ok := impl.LiveOver(l, id); ok || !sameLive(got, l) {
		t.Errorf("LiveOver of %d in %v is %v %v", id, l.News, got, ok)
	}
}

func TestLiveExamples(t *testing.T) {
	l := impl.Live{Net: example()}
	checkLiveNear(t, l, 0, 3, 10)
	l = checkTell(t, l, impl.News{Id: 7, Arc: 1, More: -1}, impl.News{Id: 7, Arc: 1, More: -1})
	checkLiveNear(t, l, 0, 3, 13)
	checkNow(t, l, 5, 12, 1, 2, 9)
	l = checkTell(t, l, impl.News{Id: 3, Arc: 3, More: 4}, impl.News{Id: 3, Arc: 3, More: 4}, impl.News{Id: 7, Arc: 1, More: -1})
	checkLiveNear(t, l, 0, 3, 14)
	checkNow(t, l, 5, 12, 5, 2, 9)
	// The Id, not the arc, says which incident is replaced.
	l = checkTell(t, l, impl.News{Id: 7, Arc: 5, More: 1}, impl.News{Id: 3, Arc: 3, More: 4}, impl.News{Id: 7, Arc: 5, More: 1})
	checkLiveNear(t, l, 0, 3, 14)
	checkNow(t, l, 5, 4, 12, 5, 2, 10)
	l = checkOver(t, l, 3, impl.News{Id: 7, Arc: 5, More: 1})
	checkLiveNear(t, l, 0, 3, 10)
	checkNoOver(t, l, 3)
	l = checkOver(t, l, 7)
	checkNow(t, l, 5, 4, 12, 1, 2, 9)
	checkNoOver(t, l, 7)
}

func TestNewsOfOneArcTwice(t *testing.T) {
	n := costs(2, [3]int{0, 1, 5}, [3]int{1, 0, 8})
	checkNow(t, impl.Live{Net: n, News: newsOf(0, 10, 20)}, 35, 8)
	checkNow(t, impl.Live{Net: n, News: newsOf(0, 10, 10)}, 25, 8)
	checkNow(t, impl.Live{Net: n, News: newsOf(1, 1, 2, 3, 4, 5, 6)}, 5, 29)
	// What is closed stays closed, whichever incident has the smaller Id.
	checkNow(t, impl.Live{Net: n, News: newsOf(0, -1, 20)}, 8)
	checkNow(t, impl.Live{Net: n, News: newsOf(0, 20, -1)}, 8)
	checkNow(t, impl.Live{Net: n, News: newsOf(0, 20, -1, 30)}, 8)
	// The sum is limited, not each increase.
	checkNow(t, impl.Live{Net: n, News: newsOf(0, 60, 34)}, 99, 8)
	checkNow(t, impl.Live{Net: n, News: newsOf(0, 60, 33)}, 98, 8)
	checkNow(t, impl.Live{Net: n, News: newsOf(0, 60, 35)}, 99, 8)
	checkNow(t, impl.Live{Net: n, News: newsOf(0, 0, 0)}, 5, 8)
	// Closed twice, an arc is open again when both incidents have ended.
	l := impl.Live{Net: n, News: newsOf(0, -1, -1)}
	checkLiveNear(t, l, 0, 1, impl.Far)
	l = checkOver(t, l, 1, impl.News{Id: 2, More: -1})
	checkLiveNear(t, l, 0, 1, impl.Far)
	l = checkOver(t, l, 2)
	checkLiveNear(t, l, 0, 1, 5)
}

func TestLiveFromANodeToItself(t *testing.T) {
	n := costs(3, [3]int{0, 1, 5}, [3]int{1, 0, 8})
	l := impl.Live{Net: n, News: []impl.News{{Id: 1, Arc: 0, More: -1}, {Id: 2, Arc: 1, More: -1}}}
	checkNow(t, l)
	for node := range n.Nodes {
		checkLiveNear(t, l, node, node, 0)
		checkLiveNear(t, impl.Live{Net: n}, node, node, 0)
	}
	checkLiveNear(t, l, 0, 1, impl.Far)
	checkLiveNear(t, l, 1, 0, impl.Far)
}

func TestNewsAtTheLimits(t *testing.T) {
	n := largest()
	last := impl.ArcsMax - 1
	l := impl.Live{Net: n, News: []impl.News{
		{Id: 1, Arc: 0, More: impl.CostMax}, {Id: 2, Arc: last, More: -1}, {Id: 3, Arc: last, More: impl.CostMax},
		{Id: 500}, {Id: 998, Arc: 1, More: -1}, {Id: impl.NewsIdMax, Arc: 0, More: -1},
	}}
	if !impl.LiveOk(l) {
		t.Fatal("at the limits LiveOk is false")
	}
	checkNow(t, l, slices.Repeat([]int{impl.CostMax}, impl.ArcsMax-3)...)
	// One more incident is too many, but one can be replaced.
	checkNoTell(t, l, impl.News{Id: 4})
	checkNoTell(t, l, impl.News{Id: 997, Arc: 2, More: -1})
	want := slices.Clone(l.News)
	want[5] = impl.News{Id: impl.NewsIdMax, Arc: last, More: 0}
	checkTell(t, l, want[5], want...)
	// When one has ended, there is room for another one.
	l = checkOver(t, l, 1, l.News[1:]...)
	l = checkTell(t, l, impl.News{Id: 4}, slices.Concat(l.News[:2], []impl.News{{Id: 4}}, l.News[2:])...)
	checkNoTell(t, l, impl.News{Id: 5})
}

func TestInvalidLives(t *testing.T) {
	for name, l := range invalidLives() {
		t.Run(name, func(t *testing.T) {
			if impl.LiveOk(l) {
				t.Error("LiveOk is true")
			}
			if got := impl.LiveNow(l); !sameNet(got, impl.Net{}) {
				t.Error("LiveNow is", got)
			}
			for _, w := range []impl.News{{Id: 1}, {Id: 3}, {Id: 5, More: -1}, {}} {
				if got, ok := impl.LiveTell(l, w); ok || !sameLive(got, impl.Live{}) {
					t.Error("LiveTell is", got, ok)
				}
			}
			for _, id := range []int{1, 3, 5, 0} {
				if got, ok := impl.LiveOver(l, id); ok || !sameLive(got, impl.Live{}) {
					t.Error("LiveOver is", got, ok)
				}
			}
			checkLiveNear(t, l, 0, 1, -1)
			checkLiveNear(t, l, 0, 0, -1)
		})
	}
}

func TestInvalidNewsAreRefused(t *testing.T) {
	r := source()
	for _, n := range []impl.Net{example(), twins(), largest()} {
		for name, w := range invalidNews(len(n.Arcs)) {
			t.Run(name, func(t *testing.T) {
				for _, l := range someLives(r, n) {
					checkNoTell(t, l, w)
				}
				// Also where it would replace a valid one.
				checkNoTell(t, impl.Live{Net: n, News: []impl.News{{Id: 5, More: 3}}}, w)
			})
		}
	}
	checkNoTell(t, impl.Live{Net: impl.Net{Nodes: 2}}, impl.News{Id: 1})
	checkNoTell(t, impl.Live{Net: impl.Net{Nodes: 1}}, impl.News{Id: 1, More: -1})
}

func TestLiveWithoutANode(t *testing.T) {
	for _, n := range []impl.Net{example(), {Nodes: 1}, largest()} {
		for _, node := range noNodes(n) {
			checkLiveNear(t, impl.Live{Net: n}, node, 0, -1)
			checkLiveNear(t, impl.Live{Net: n}, 0, node, -1)
			checkLiveNear(t, impl.Live{Net: n}, node, node, -1)
		}
	}
}

// P68
func TestIncidentsNeverReduceCosts(t *testing.T) {
	eachLive(t, func(t *testing.T, l impl.Live) {
		if !impl.LiveOk(l) {
			t.Fatal("LiveOk is false")
		}
		now, want := impl.LiveNow(l), nowByHand(l)
		if !sameNet(now, want) || !impl.NetOk(now) {
			t.Error("the current graph is", now, "not", want)
		}
	})
}

// P69
func TestReportedIncidentReplacesOneWithTheSameId(t *testing.T) {
	r := source()
	replaced, added := 0, 0
	eachLive(t, func(t *testing.T, l impl.Live) {
		if len(l.Net.Arcs) == 0 {
			return
		}
		reports := someNews(r, l.Net, 2, impl.CostMax)
		for _, w := range l.News {
			reports = append(reports, impl.News{Id: w.Id, Arc: r.IntN(len(l.Net.Arcs)), More: r.IntN(9) - 1})
		}
		for _, w := range reports {
			want := toldByHand(l.News, w)
			if len(want) > impl.NewsMax {
				checkNoTell(t, l, w)
				continue
			}
			if len(want) == len(l.News) {
				replaced++
			} else {
				added++
			}
			told := checkTell(t, l, w, want...)
			if !impl.LiveOk(told) || !slices.Contains(told.News, w) {
				t.Error("with", w, "the incidents are", told.News)
			}
			checkTell(t, told, w, told.News...)
		}
	})
	if replaced < 1000 || added < 1000 {
		t.Error("only", replaced, "incidents are replaced and", added, "added")
	}
}

// P70
func TestEndedIncidentIsRemoved(t *testing.T) {
	eachLive(t, func(t *testing.T, l impl.Live) {
		for _, w := range l.News {
			over := checkOver(t, l, w.Id, without(l.News, w.Id)...)
			checkTell(t, over, w, l.News...)
			checkNoOver(t, over, w.Id)
		}
		for _, id := range []int{0, -1, impl.NewsIdMax + 1, math.MinInt, math.MaxInt} {
			checkNoOver(t, l, id)
		}
	})
}

// P71
func TestIncidentsNeverShortenDistances(t *testing.T) {
	eachLive(t, func(t *testing.T, l impl.Live) {
		now := allNear(impl.LiveNow(l))
		for from, near := range allNear(l.Net) {
			for to, cost := range near {
				got := impl.LiveNear(l, from, to)
				if got != now[from][to] || got < cost {
					t.Error("the distance from", from, "to", to, "is", got, "not", now[from][to], "and without incidents", cost)
				}
			}
		}
	})
}

// bothTold are two reports, one after the other.
func bothTold(l impl.Live, a impl.News, b impl.News) (impl.Live, bool) {
	first, ok := impl.LiveTell(l, a)
	second, alsoOk := impl.LiveTell(first, b)
	return second, ok && alsoOk
}

// P72
func TestReportsOfDifferentIncidentsCommute(t *testing.T) {
	r := source()
	eachLive(t, func(t *testing.T, l impl.Live) {
		if len(l.Net.Arcs) == 0 {
			return
		}
		reports := slices.Concat(someNews(r, l.Net, 3, impl.CostMax), []impl.News{{Id: 0}, {Id: 4, Arc: -1}})
		for _, w := range l.News {
			reports = append(reports, impl.News{Id: w.Id, Arc: r.IntN(len(l.Net.Arcs)), More: r.IntN(9) - 1})
		}
		for i, a := range reports {
			for _, b := range reports[:i] {
				one, oneOk := bothTold(l, a, b)
				other, otherOk := bothTold(l, b, a)
				// Where there is room for one of two new ones alone, the first one gets it.
				full := len(toldByHand(toldByHand(l.News, a), b)) > impl.NewsMax
				if a.Id != b.Id && !full && (oneOk != otherOk || !sameLive(one, other)) {
					t.Error("after", a, "and", b, "the incidents are", one.News, "but the other way round", other.News)
				}
			}
		}
	})
}

func TestRoomForOneIncident(t *testing.T) {
	l := impl.Live{Net: example(), News: newsOf(0, 1, 1, 1, 1, 1)}
	a, b := impl.News{Id: 8, Arc: 1}, impl.News{Id: 7, Arc: 2}
	first := checkTell(t, l, a, append(slices.Clone(l.News), a)...)
	checkNoTell(t, first, b)
	first = checkTell(t, l, b, append(slices.Clone(l.News), b)...)
	checkNoTell(t, first, a)
}

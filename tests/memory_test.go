package tests

import (
	"reflect"
	"slices"
	"strings"
	"testing"

	"loop.example/waymark/impl"
)

// given are arguments for all functions.
type given struct {
	net   impl.Net
	walk  []int
	rest  []int
	nodes [2]int
	turns []impl.Turn
	stair []impl.Step
	other []impl.Step
	steps []impl.Step
	times [3]int
	plan  impl.Plan
	stops [2]int
	trips int
	rank  impl.Rank
	costs []int
	high  []int
	part  []int
	list  []int
	many  int
	seen  [][]int
	where []int
	live  impl.Live
	told  impl.News
	tour  []int
	event impl.Event
	jour  string
	bytes int
	lines []string
}

// call is a function of the package, and which of the given arguments it takes.
type call struct {
	name string
	run  any
	args func(g given) []any
}

func calls() []call {
	return slices.Concat(netCalls(), turnCalls(), stairCalls(), planCalls(), rankCalls(), partCalls(), markCalls(), someCalls(), liveCalls(), loadCalls(), fileCalls())
}

// netCalls are the functions of chapters 1 to 3.
func netCalls() []call {
	return []call{
		{"NetOk", impl.NetOk, func(g given) []any { return []any{g.net} }},
		{"NetOut", impl.NetOut, func(g given) []any { return []any{g.net, g.nodes[0]} }},
		{"NetBack", impl.NetBack, func(g given) []any { return []any{g.net} }},
		{"NetPut", impl.NetPut, func(g given) []any { return []any{g.net} }},
		{"NetGet", impl.NetGet, func(g given) []any { return []any{impl.NetPut(g.net)} }},
		{"WalkOk", impl.WalkOk, func(g given) []any { return []any{g.net, g.walk} }},
		{"WalkCost", impl.WalkCost, func(g given) []any { return []any{g.net, g.walk} }},
		{"WalkNodes", impl.WalkNodes, func(g given) []any { return []any{g.net, g.walk} }},
		{"WalkJoin", impl.WalkJoin, func(g given) []any { return []any{g.net, g.walk, g.rest} }},
		{"WalkJoin, nothing first", impl.WalkJoin, func(g given) []any { return []any{g.net, []int{}, g.walk} }},
		{"WalkJoin, nothing last", impl.WalkJoin, func(g given) []any { return []any{g.net, g.walk, []int{}} }},
		{"WalkPlain", impl.WalkPlain, func(g given) []any { return []any{g.net, g.walk} }},
		{"WalkPlain of the rest", impl.WalkPlain, func(g given) []any { return []any{g.net, g.rest} }},
		{"NearAll", impl.NearAll, func(g given) []any { return []any{g.net, g.nodes[0]} }},
		{"NearTo", impl.NearTo, func(g given) []any { return []any{g.net, g.nodes[0]} }},
		{"NearWalk", impl.NearWalk, func(g given) []any { return []any{g.net, g.nodes[0], g.nodes[1]} }},
		{"NearTree", impl.NearTree, func(g given) []any { return []any{g.net, g.nodes[0]} }},
	}
}

// turnCalls are the functions of chapter 4.
func turnCalls() []call {
	return []call{
		{"TurnsOk", impl.TurnsOk, func(g given) []any { return []any{g.net, g.turns} }},
		{"TurnWalk", impl.TurnWalk, func(g given) []any { return []any{g.net, g.turns, g.walk} }},
		{"TurnAll", impl.TurnAll, func(g given) []any { return []any{g.net, g.turns, g.nodes[0]} }},
		{"TurnNet", impl.TurnNet, func(g given) []any { return []any{g.net, g.turns} }},
	}
}

// stairCalls are the functions of chapter 5.
func stairCalls() []call {
	return []call{
		{"StairOk", impl.StairOk, func(g given) []any { return []any{g.stair} }},
		{"StairAt", impl.StairAt, func(g given) []any { return []any{g.stair, g.times[0]} }},
		{"StairOf", impl.StairOf, func(g given) []any { return []any{g.steps} }},
		{"StairOf a stair", impl.StairOf, func(g given) []any { return []any{g.stair} }},
		{"StairLink", impl.StairLink, func(g given) []any { return []any{g.stair, g.other} }},
		{"StairLink, nothing first", impl.StairLink, func(g given) []any { return []any{[]impl.Step{}, g.other} }},
		{"StairLink, nothing last", impl.StairLink, func(g given) []any { return []any{g.stair, []impl.Step{}} }},
		{"StairBest", impl.StairBest, func(g given) []any { return []any{g.stair, g.other} }},
		{"StairBest, nothing first", impl.StairBest, func(g given) []any { return []any{[]impl.Step{}, g.other} }},
		{"StairBest, nothing last", impl.StairBest, func(g given) []any { return []any{g.stair, []impl.Step{}} }},
		{"StairLast", impl.StairLast, func(g given) []any { return []any{g.stair, g.times[0]} }},
		{"StairWalk", impl.StairWalk, func(g given) []any { return []any{g.times[0], g.times[1], g.times[2]} }},
	}
}

// planCalls are the functions of chapters 6 and 7.
func planCalls() []call {
	return []call{
		{"PlanOk", impl.PlanOk, func(g given) []any { return []any{g.plan} }},
		{"PlanAll", impl.PlanAll, func(g given) []any { return []any{g.plan, g.stops[0], g.times[0]} }},
		{"PlanStair", impl.PlanStair, func(g given) []any { return []any{g.plan, g.stops[0], g.stops[1]} }},
		{"PlanLate", impl.PlanLate, func(g given) []any { return []any{g.plan, g.trips, g.times[0]} }},
		{"PlanLate by nothing", impl.PlanLate, func(g given) []any { return []any{g.plan, g.trips, 0} }},
		{"RoundAll", impl.RoundAll, func(g given) []any { return []any{g.plan, g.stops[0], g.times[0], g.trips} }},
		{"RoundBest", impl.RoundBest, func(g given) []any { return []any{g.plan, g.stops[0], g.stops[1], g.times[0]} }},
	}
}

// rankCalls are the functions of chapters 8 and 9.
func rankCalls() []call {
	return []call{
		{"RankOf", impl.RankOf, func(g given) []any { return []any{g.net, g.rank.Order} }},
		{"RankOk", impl.RankOk, func(g given) []any { return []any{g.net, g.rank} }},
		{"RankNear", impl.RankNear, func(g given) []any { return []any{g.net, g.rank, g.nodes[0], g.nodes[1]} }},
		{"RankArc", impl.RankArc, func(g given) []any { return []any{g.net, g.rank, g.nodes[0], g.nodes[1]} }},
		{"RankMany", impl.RankMany, func(g given) []any { return []any{g.net, g.rank} }},
		{"CostNet", impl.CostNet, func(g given) []any { return []any{g.net, g.costs} }},
		{"CostNet, its own costs", impl.CostNet, func(g given) []any { return []any{g.net, costsIn(g.net)} }},
		{"CostOf", impl.CostOf, func(g given) []any { return []any{g.net, g.times[0], g.times[1]} }},
		{"CostLift", impl.CostLift, func(g given) []any { return []any{g.net, g.high} }},
		{"CostRank", impl.CostRank, func(g given) []any { return []any{g.net, g.rank, g.costs} }},
		{"CostRank, the same costs", impl.CostRank, func(g given) []any { return []any{g.net, g.rank, costsIn(g.net)} }},
	}
}

// partCalls are the functions of chapters 10 and 11.
func partCalls() []call {
	return []call{
		{"PartEdges", impl.PartEdges, func(g given) []any { return []any{g.net, g.part} }},
		{"PartOver", impl.PartOver, func(g given) []any { return []any{g.net, g.part} }},
		{"PartNear", impl.PartNear, func(g given) []any { return []any{g.net, g.part, g.nodes[0], g.nodes[1]} }},
		{"PartCut", impl.PartCut, func(g given) []any { return []any{g.net, g.part} }},
		{"ManyAll", impl.ManyAll, func(g given) []any { return []any{g.net, g.list, g.rank.Order} }},
		{"ManyAll, a list twice", impl.ManyAll, func(g given) []any { return []any{g.net, g.list, g.list} }},
		{"ManyNear", impl.ManyNear, func(g given) []any { return []any{g.net, g.nodes[0], g.list} }},
		{"ManyServe", impl.ManyServe, func(g given) []any { return []any{g.net, g.list} }},
	}
}

// markCalls are the functions of chapters 12 and 13.
func markCalls() []call {
	return []call{
		{"MarkBound", impl.MarkBound, func(g given) []any { return []any{g.net, g.list, g.nodes[0], g.nodes[1]} }},
		{"MarkNear", impl.MarkNear, func(g given) []any { return []any{g.net, g.list, g.nodes[0], g.nodes[1]} }},
		{"MarkPick", impl.MarkPick, func(g given) []any { return []any{g.net, g.many} }},
		{"MarkPick, all nodes", impl.MarkPick, func(g given) []any { return []any{g.net, g.net.Nodes} }},
		{"ReachIn", impl.ReachIn, func(g given) []any { return []any{g.net, g.nodes[0], g.times[0]} }},
		{"ReachArcs", impl.ReachArcs, func(g given) []any { return []any{g.net, g.nodes[0], g.times[0]} }},
		{"ReachParts", impl.ReachParts, func(g given) []any { return []any{g.net} }},
		{"ReachFar", impl.ReachFar, func(g given) []any { return []any{g.net} }},
	}
}

// someCalls are the functions of chapters 14 and 15.
func someCalls() []call {
	return []call{
		{"SomeWalks", impl.SomeWalks, func(g given) []any { return []any{g.net, g.nodes[0], g.nodes[1], g.many} }},
		{"SomeWalks, all that are told", impl.SomeWalks, func(g given) []any { return []any{g.net, g.nodes[0], g.nodes[1], impl.SomeMax} }},
		{"SomeShare", impl.SomeShare, func(g given) []any { return []any{g.net, g.walk, g.rest} }},
		{"SomeShare, a walk twice", impl.SomeShare, func(g given) []any { return []any{g.net, g.walk, g.walk} }},
		{"SomeOthers", impl.SomeOthers, func(g given) []any { return []any{g.net, g.nodes[0], g.nodes[1], g.times[1], g.times[0]} }},
		{"SomeOthers, all of them", impl.SomeOthers, func(g given) []any { return []any{g.net, g.nodes[0], g.nodes[1], 200, 100} }},
		{"SeenBest", impl.SeenBest, func(g given) []any { return []any{g.net, g.seen} }},
		{"SeenCost", impl.SeenCost, func(g given) []any { return []any{g.net, g.seen, g.where} }},
	}
}

// liveCalls are the functions of chapters 16 and 17.
func liveCalls() []call {
	return []call{
		{"LiveOk", impl.LiveOk, func(g given) []any { return []any{g.live} }},
		{"LiveNow", impl.LiveNow, func(g given) []any { return []any{g.live} }},
		{"LiveNow without incidents", impl.LiveNow, func(g given) []any { return []any{impl.Live{Net: g.net}} }},
		{"LiveTell", impl.LiveTell, func(g given) []any { return []any{g.live, g.told} }},
		{"LiveTell of what is invalid", impl.LiveTell, func(g given) []any { return []any{g.live, impl.News{}} }},
		{"LiveTell of the first one", impl.LiveTell, func(g given) []any { return []any{g.live, firstNews(g)} }},
		{"LiveOver", impl.LiveOver, func(g given) []any { return []any{g.live, firstNews(g).Id} }},
		{"LiveOver of nothing", impl.LiveOver, func(g given) []any { return []any{g.live, 0} }},
		{"LiveNear", impl.LiveNear, func(g given) []any { return []any{g.live, g.nodes[0], g.nodes[1]} }},
		{"TourCost", impl.TourCost, func(g given) []any { return []any{g.net, g.tour} }},
		{"TourBest", impl.TourBest, func(g given) []any { return []any{g.net, g.tour} }},
		{"TourBest of one stop", impl.TourBest, func(g given) []any { return []any{g.net, []int{g.nodes[0]}} }},
		{"TourNear", impl.TourNear, func(g given) []any { return []any{g.net, g.tour} }},
		{"TourNear of one stop", impl.TourNear, func(g given) []any { return []any{g.net, []int{g.nodes[0]}} }},
	}
}

// firstNews is the first one of the incidents, or another one if there is none.
func firstNews(g given) impl.News {
	if len(g.live.News) == 0 {
		return g.told
	}
	return g.live.News[0]
}

// loadCalls are the functions of chapters 18 to 20.
func loadCalls() []call {
	return []call{
		{"LoadNet", impl.LoadNet, func(g given) []any { return []any{g.net, g.many} }},
		{"LoadNet, all arcs", impl.LoadNet, func(g given) []any { return []any{g.net, 0} }},
		{"LoadAll", impl.LoadAll, func(g given) []any { return []any{g.net, g.nodes[0]} }},
		{"LoadWalk", impl.LoadWalk, func(g given) []any { return []any{g.net, g.nodes[0], g.nodes[1], g.many} }},
		{"LoadWalk, all arcs", impl.LoadWalk, func(g given) []any { return []any{g.net, g.nodes[0], g.nodes[1], 0} }},
		{"PairAll", impl.PairAll, func(g given) []any { return []any{g.net, g.nodes[0], g.nodes[1]} }},
		{"PairWith", impl.PairWith, func(g given) []any { return []any{g.net, g.nodes[0], g.nodes[1], g.times[0]} }},
		{"PairSum", impl.PairSum, func(g given) []any { return []any{g.net, g.nodes[0], g.nodes[1], g.times[0], g.times[1]} }},
		{"BothNear", impl.BothNear, func(g given) []any { return []any{g.net, g.nodes[0], g.nodes[1]} }},
		{"BothOver", impl.BothOver, func(g given) []any { return []any{g.net, g.nodes[0], g.nodes[1], g.nodes[0]} }},
	}
}

// fileCalls are the functions of chapters 21 and 22.
func fileCalls() []call {
	return []call{
		{"Crc", impl.Crc, func(g given) []any { return []any{g.jour} }},
		{"EventOk", impl.EventOk, func(g given) []any { return []any{g.event} }},
		{"EventPut", impl.EventPut, func(g given) []any { return []any{g.event} }},
		{"EventGet", impl.EventGet, func(g given) []any { return []any{impl.EventPut(g.event)} }},
		{"LiveDo", impl.LiveDo, func(g given) []any { return []any{g.live, g.event} }},
		{"LiveDo of what is invalid", impl.LiveDo, func(g given) []any { return []any{g.live, impl.Event{}} }},
		{"LiveDo of the first one", impl.LiveDo, func(g given) []any { return []any{g.live, impl.Event{News: firstNews(g)}} }},
		{"LiveDo of the end of the first one", impl.LiveDo, func(g given) []any { return []any{g.live, over(firstNews(g).Id)} }},
		{"LiveDo of the end of nothing", impl.LiveDo, func(g given) []any { return []any{g.live, over(impl.NewsIdMax)} }},
		{"JourRead", impl.JourRead, func(g given) []any { return []any{g.net, g.jour} }},
		{"JourRead of nothing", impl.JourRead, func(g given) []any { return []any{g.net, ""} }},
		{"JourRead, cut off", impl.JourRead, func(g given) []any { return []any{g.net, g.jour[:len(g.jour)/2]} }},
		{"JourAdd", impl.JourAdd, func(g given) []any { return []any{g.net, g.jour, g.event} }},
		{"JourTear", impl.JourTear, func(g given) []any { return []any{g.net, g.jour, g.event, g.bytes} }},
		{"Session", impl.Session, func(g given) []any { return []any{g.net, g.lines} }},
	}
}

// givens are arguments, valid ones and some that are invalid.
func givens() []given {
	return slices.Concat(netGivens(), planGivens(), invalidGivens(), invalidListGivens())
}

// netGivens are valid arguments in graphs, with walks that have a common node.
func netGivens() []given {
	r := source()
	stairs := validStairs()
	var list []given
	for i, n := range validNets()[:60] {
		w := wander(r, n, 0, impl.WalkMax)
		at := r.IntN(len(w) + 1)
		seen := observations(r, n, i%(impl.SeenMax+1), impl.CostMax)
		lives := someLives(r, n)
		jour, _ := someJournal(r, n, i%9)
		list = append(list, given{
			net: n, walk: w[:at], rest: w[at:], nodes: [2]int{0, n.Nodes - 1}, turns: someTurns(r, n, impl.TurnsMax),
			stair: stairs[i], other: stairs[i+1], steps: scatteredSteps(r, i%9, impl.TimeMax), times: [3]int{i, 2 * i, 1 + i},
			rank: impl.RankOf(n, r.Perm(n.Nodes)), costs: numbers(r, len(n.Arcs), impl.CostMax), high: someHeights(r, n)[i%(5+n.Nodes)],
			part: numbers(r, n.Nodes, impl.PartsMax-1), list: numbers(r, i%(impl.NodesMax+1), n.Nodes-1),
			many: i % (impl.NodesMax + 1), seen: seen, where: numbers(r, len(seen), n.Nodes-1),
			live: lives[i%len(lives)], told: impl.News{Id: 1 + 16*i, More: i%3 - 1}, tour: r.Perm(n.Nodes)[:min(n.Nodes, 1+i%impl.TourMax)],
			event: someEvent(r, n), jour: jour, bytes: i, lines: someLines(r, n, i),
		})
	}
	return append(list,
		given{net: example(), walk: []int{0, 1, 3}, rest: []int{4, 2}, nodes: [2]int{0, 3}, turns: exampleTurns()},
		given{net: example(), walk: []int{0, 9}, rest: []int{-1}, nodes: [2]int{4, 0}, turns: []impl.Turn{{In: 0, Out: 3}}},
	)
}

// planGivens are valid arguments in timetables.
func planGivens() []given {
	var list []given
	for i, p := range validPlans() {
		if i%3 == 0 {
			list = append(list, given{plan: p, stops: [2]int{i % p.Stops, (i + 1) % p.Stops}, trips: i % (impl.TripsMax + 1), times: [3]int{i % 15}})
		}
	}
	return list
}

// invalidGivens are invalid graphs, hierarchies, observations, timetables and incidents.
func invalidGivens() []given {
	var list []given
	for _, n := range invalidNets() {
		list = append(list, given{
			net: n, walk: []int{0}, rest: []int{1}, nodes: [2]int{0, 1}, turns: exampleTurns(),
			rank: impl.RankOf(example(), upTo(4)), costs: costsIn(n), high: upTo(4), part: upTo(4), list: []int{1, 0},
			many: 1, seen: [][]int{upTo(4)}, where: []int{1}, live: impl.Live{Net: n}, told: impl.News{Id: 1}, tour: []int{1, 0},
			event: told(1, 0, -1), jour: recordOf(told(2, 1, 3)), bytes: 5, lines: []string{"news", "shut 1 0"},
		})
	}
	for _, rank := range invalidRanks(example(), impl.RankOf(example(), upTo(4))) {
		list = append(list, given{net: example(), nodes: [2]int{1, 2}, rank: rank, costs: costsIn(example()), list: []int{0, 1}})
	}
	for _, seen := range invalidSeen(example()) {
		list = append(list, given{net: example(), seen: seen, where: make([]int, len(seen))})
	}
	for _, p := range invalidPlans() {
		list = append(list, given{plan: p, stops: [2]int{0, 1}, trips: 1})
	}
	for _, l := range invalidLives() {
		list = append(list, given{live: l, told: impl.News{Id: 3}, nodes: [2]int{0, 1}, event: over(3)})
	}
	return list
}

// invalidListGivens are invalid lists of numbers, stops and profiles, and incidents that are refused.
func invalidListGivens() []given {
	var list []given
	for _, numbers := range invalidNumbers(4, impl.CostMax) {
		list = append(list, given{net: example(), rank: impl.RankOf(example(), upTo(4)), costs: numbers, high: numbers, part: numbers, list: numbers})
	}
	for _, stops := range invalidStops(example()) {
		list = append(list, given{net: example(), tour: stops, many: impl.LoadMax + 1})
	}
	live := impl.Live{Net: example(), News: newsOf(1, 2, 3)}
	for _, w := range invalidNews(len(example().Arcs)) {
		list = append(list, given{live: live, told: w})
	}
	for _, e := range invalidEvents() {
		list = append(list, given{net: example(), live: live, event: e, jour: recordOf(told(5, 1, 2)), bytes: -1})
	}
	list = append(list,
		given{net: example(), event: over(5), jour: recordOf(told(5, 1, 2)) + record("1", "over 5"), bytes: impl.JourMax, lines: []string{"shut 3 9", "over 5"}},
		given{net: example(), event: over(1), jour: strings.Repeat("x", impl.JourMax+1), lines: noEvents()},
	)
	stairs := validStairs()
	for _, s := range invalidStairs() {
		list = append(list, given{stair: s, other: stairs[1], steps: s}, given{stair: stairs[1], other: s, steps: s})
	}
	return list
}

// copied is a copy of a value in memory of its own, in which every slice is what remake makes of it.
func copied(v reflect.Value, remake func(v reflect.Value) reflect.Value) reflect.Value {
	c := reflect.New(v.Type()).Elem()
	switch v.Kind() {
	case reflect.Slice:
		c.Set(remake(v))
		for i := range c.Len() {
			c.Index(i).Set(copied(c.Index(i), remake))
		}
	case reflect.Struct:
		for i := range v.NumField() {
			c.Field(i).Set(copied(v.Field(i), remake))
		}
	default:
		c.Set(v)
	}
	return c
}

// exact is a copy of a slice.
func exact(v reflect.Value) reflect.Value {
	return reflect.AppendSlice(reflect.MakeSlice(v.Type(), 0, v.Len()), v)
}

// wide is a copy of a slice that is as long as its capacity.
func wide(v reflect.Value) reflect.Value {
	return exact(v.Slice(0, v.Cap()))
}

// roomy is a copy of a slice with marks in its spare capacity, so that writing into it shows.
func roomy(v reflect.Value) reflect.Value {
	c := reflect.MakeSlice(v.Type(), v.Len()+40, v.Len()+40)
	mark(c)
	reflect.Copy(c, v)
	return c.Slice(0, v.Len())
}

// mark overwrites a value, and all that its slices hold, their spare capacity too.
func mark(v reflect.Value) {
	switch v.Kind() {
	case reflect.Slice:
		for i := range v.Cap() {
			mark(v.Slice(0, v.Cap()).Index(i))
		}
	case reflect.Struct:
		for i := range v.NumField() {
			mark(v.Field(i))
		}
	case reflect.Int:
		v.SetInt(-7)
	case reflect.Bool:
		v.SetBool(true)
	case reflect.String:
		v.SetString("mark")
	}
}

// copies are copies of values, their slices made by remake.
func copies(values []reflect.Value, remake func(v reflect.Value) reflect.Value) []any {
	var list []any
	for _, v := range values {
		list = append(list, copied(v, remake).Interface())
	}
	return list
}

// span is a piece of memory.
type span struct {
	from uintptr
	to   uintptr
}

// spans are the memory of all slices of a value, with their spare capacity.
func spans(v reflect.Value) []span {
	var list []span
	switch v.Kind() {
	case reflect.Slice:
		size := uintptr(v.Cap()) * v.Type().Elem().Size()
		if size > 0 {
			list = append(list, span{v.Pointer(), v.Pointer() + size})
		}
		for i := range v.Cap() {
			list = append(list, spans(v.Slice(0, v.Cap()).Index(i))...)
		}
	case reflect.Struct:
		for i := range v.NumField() {
			list = append(list, spans(v.Field(i))...)
		}
	}
	return list
}

// spansOf are the memory of all slices of values.
func spansOf(values []reflect.Value) []span {
	var list []span
	for _, v := range values {
		list = append(list, spans(v)...)
	}
	return list
}

// shared says whether two pieces of memory overlap.
func shared(a span, b span) bool {
	return a.from < b.to && b.from < a.to
}

// eachCall runs every function with all arguments, then a test with the arguments, how they were before, and the results.
func eachCall(t *testing.T, test func(c call, args []reflect.Value, before []any, results []reflect.Value) bool) {
	t.Helper()
	list := givens()
	for _, c := range calls() {
		for _, g := range list {
			var args []reflect.Value
			for _, arg := range c.args(g) {
				args = append(args, copied(reflect.ValueOf(arg), roomy))
			}
			before := copies(args, wide)
			results := reflect.ValueOf(c.run).Call(args)
			if !test(c, args, before, results) {
				t.Errorf("%s with %v", c.name, c.args(g))
			}
		}
	}
}

func TestNoFunctionChangesAnArgument(t *testing.T) {
	eachCall(t, func(c call, args []reflect.Value, before []any, results []reflect.Value) bool {
		return reflect.DeepEqual(copies(args, wide), before)
	})
}

func TestResultsShareNoMemoryWithArguments(t *testing.T) {
	eachCall(t, func(c call, args []reflect.Value, before []any, results []reflect.Value) bool {
		for _, a := range spansOf(args) {
			for _, b := range spansOf(results) {
				if shared(a, b) {
					return false
				}
			}
		}
		return true
	})
}

func TestSlicesOfAResultShareNoMemory(t *testing.T) {
	eachCall(t, func(c call, args []reflect.Value, before []any, results []reflect.Value) bool {
		list := spansOf(results)
		for i, a := range list {
			for _, b := range list[:i] {
				if shared(a, b) {
					return false
				}
			}
		}
		return true
	})
}

func TestNoStateIsKeptBetweenCalls(t *testing.T) {
	eachCall(t, func(c call, args []reflect.Value, before []any, results []reflect.Value) bool {
		want := copies(results, exact)
		// What a later call returns must not depend on what becomes of this result.
		for _, v := range results {
			holder := reflect.New(v.Type()).Elem()
			holder.Set(v)
			mark(holder)
		}
		return reflect.DeepEqual(copies(reflect.ValueOf(c.run).Call(args), exact), want)
	})
}

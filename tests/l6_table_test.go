package tests

import (
	"math"
	"math/rand/v2"
	"slices"
	"testing"

	"loop.example/waymark/impl"
)

// timetable makes a timetable of connections that are a beginning, an end, when it goes and comes, and a trip.
func timetable(stops int, change int, conns ...[5]int) impl.Plan {
	p := impl.Plan{Stops: stops, Change: change}
	for _, c := range conns {
		p.Conns = append(p.Conns, impl.Conn{From: c[0], To: c[1], Go: c[2], Come: c[3], Trip: c[4]})
	}
	return p
}

// railway has a slow trip from one end to the other, and two quicker ones for a part of it, the first of which is missed.
func railway() impl.Plan {
	return timetable(4, 3, [5]int{0, 1, 5, 10, 0}, [5]int{1, 2, 11, 30, 0}, [5]int{1, 2, 12, 20, 1}, [5]int{1, 2, 13, 25, 2}, [5]int{2, 3, 30, 40, 0})
}

// shuttle leaves stop 0 as often as the limits allow: a trip cannot leave again before it has come back.
func shuttle() impl.Plan {
	p := impl.Plan{Stops: 2}
	for trip := range impl.TripsMax {
		leave := 20 * trip
		p.Conns = append(p.Conns, impl.Conn{From: 0, To: 1, Go: leave, Come: leave + 5, Trip: trip})
		if trip < impl.TripsMax-1 {
			p.Conns = append(p.Conns, impl.Conn{From: 1, To: 0, Go: leave + 5, Come: leave + 9, Trip: trip}, impl.Conn{From: 0, To: 1, Go: leave + 10, Come: leave + 15, Trip: trip})
		}
	}
	return p
}

// fullPlan is at every limit of a timetable at once.
func fullPlan() impl.Plan {
	p := impl.Plan{Stops: impl.NodesMax, Change: impl.ChangeMax}
	for i := range impl.ConnsMax - 1 {
		p.Conns = append(p.Conns, impl.Conn{From: i % impl.NodesMax, To: (i + 1) % impl.NodesMax, Go: i, Come: i + 1, Trip: impl.TripsMax - 1})
	}
	p.Conns = append(p.Conns, impl.Conn{From: impl.NodesMax - 1, To: 0, Go: impl.TimeMax, Come: impl.TimeMax})
	return p
}

// atOnce has connections that take no time, each listed before the one that leads to it, and all of different trips.
func atOnce(change int) impl.Plan {
	return timetable(7, change, [5]int{5, 6, 9, 9, 5}, [5]int{4, 5, 9, 9, 4}, [5]int{3, 4, 9, 9, 3}, [5]int{2, 3, 9, 9, 2}, [5]int{1, 2, 9, 9, 1}, [5]int{0, 1, 9, 9, 0})
}

// roundAtOnce has connections that take no time, in a ring of all stops, each listed before the one that leads to it.
// One trip has the last ones and then the first one, so that who goes through all stops boards more often than there are trips.
func roundAtOnce() impl.Plan {
	return timetable(8, 0, [5]int{6, 7, 9, 9, 0}, [5]int{7, 0, 9, 9, 0}, [5]int{5, 6, 9, 9, 5}, [5]int{4, 5, 9, 9, 4},
		[5]int{3, 4, 9, 9, 3}, [5]int{2, 3, 9, 9, 2}, [5]int{1, 2, 9, 9, 1}, [5]int{0, 1, 9, 9, 0})
}

// scatteredPlan is an arbitrary valid timetable whose trips wait and whose connections take at most so long.
func scatteredPlan(r *rand.Rand, wait int, long int, change int) impl.Plan {
	p := impl.Plan{Stops: 1 + r.IntN(impl.NodesMax), Change: r.IntN(change + 1)}
	if p.Stops == 1 {
		return p
	}
	// Where and when each vehicle is.
	stops, times := [impl.TripsMax]int{}, [impl.TripsMax]int{}
	for trip := range impl.TripsMax {
		stops[trip], times[trip] = r.IntN(p.Stops), r.IntN(wait+1)
	}
	for range r.IntN(impl.ConnsMax + 1) {
		trip := r.IntN(impl.TripsMax)
		c := impl.Conn{From: stops[trip], To: (stops[trip] + 1 + r.IntN(p.Stops-1)) % p.Stops, Go: times[trip] + r.IntN(wait+1), Trip: trip}
		c.Come = c.Go + r.IntN(long+1)
		if c.Come <= impl.TimeMax {
			p.Conns = append(p.Conns, c)
			stops[trip], times[trip] = c.To, c.Come
		}
	}
	p.Conns = byGo(p.Conns)
	return p
}

// byGo is connections in the order of Go, those that go together in the order given.
func byGo(conns []impl.Conn) []impl.Conn {
	var sorted []impl.Conn
	for at := range 2*impl.TimeMax + 1 {
		for _, c := range conns {
			if c.Go == at {
				sorted = append(sorted, c)
			}
		}
	}
	return sorted
}

// validPlans are the timetables on which the promises are tested.
func validPlans() []impl.Plan {
	list := []impl.Plan{
		railway(), shuttle(), fullPlan(), atOnce(0), atOnce(1), roundAtOnce(),
		{Stops: 1}, {Stops: 1, Change: impl.ChangeMax}, {Stops: impl.NodesMax, Conns: []impl.Conn{}},
	}
	r := source()
	for _, kind := range [][3]int{{0, 0, 0}, {1, 1, 0}, {2, 1, 3}, {6, 4, 5}, {20, 10, 10}, {30, 60, impl.ChangeMax}} {
		for range 40 {
			list = append(list, scatteredPlan(r, kind[0], kind[1], kind[2]))
		}
	}
	return list
}

// invalidPlans are timetables that break one rule each.
func invalidPlans() map[string]impl.Plan {
	plans := map[string]impl.Plan{
		"zero value":             {},
		"negative stops":         {Stops: -1},
		"smallest stops":         {Stops: math.MinInt},
		"one stop too many":      {Stops: impl.NodesMax + 1},
		"largest stops":          {Stops: math.MaxInt},
		"negative change":        timetable(2, -1, [5]int{0, 1, 5, 9, 0}),
		"change one too large":   timetable(2, impl.ChangeMax+1, [5]int{0, 1, 5, 9, 0}),
		"largest change":         timetable(2, math.MaxInt, [5]int{0, 1, 5, 9, 0}),
		"no stop but connection": timetable(0, 0, [5]int{0, 1, 5, 9, 0}),
		"one stop, connection":   timetable(1, 0, [5]int{0, 0, 5, 9, 0}),
		"Go decreases":           timetable(2, 0, [5]int{0, 1, 5, 9, 0}, [5]int{0, 1, 4, 9, 1}),
		"Go decreases later":     timetable(2, 0, [5]int{0, 1, 4, 9, 0}, [5]int{0, 1, 6, 9, 1}, [5]int{0, 1, 5, 9, 2}),
		"begins elsewhere":       timetable(3, 0, [5]int{0, 1, 5, 9, 0}, [5]int{2, 0, 9, 12, 0}),
		"begins where it began":  timetable(2, 0, [5]int{0, 1, 5, 9, 0}, [5]int{0, 1, 9, 12, 0}),
		"elsewhere, with others": timetable(3, 0, [5]int{0, 1, 5, 9, 0}, [5]int{1, 2, 9, 9, 1}, [5]int{2, 0, 9, 12, 0}),
		"leaves before it comes": timetable(2, 0, [5]int{0, 1, 5, 9, 0}, [5]int{1, 0, 8, 12, 0}),
		"so does the third one":  timetable(2, 0, [5]int{0, 1, 5, 6, 0}, [5]int{1, 0, 6, 9, 0}, [5]int{0, 1, 7, 12, 0}),
		"both at once":           timetable(2, 0, [5]int{0, 1, 5, 6, 0}, [5]int{1, 0, 5, 6, 0}),
	}
	many := fullPlan()
	many.Conns = append(many.Conns, impl.Conn{From: 0, To: 1, Go: impl.TimeMax, Come: impl.TimeMax, Trip: 1})
	plans["one connection too many"] = many
	plans["far too many"] = impl.Plan{Stops: 2, Conns: slices.Repeat([]impl.Conn{{From: 0, To: 1}}, 5000)}
	for name, c := range invalidConns() {
		first, last := railway(), railway()
		first.Conns[0] = c
		last.Conns[4] = c
		plans[name+", first"] = first
		plans[name+", last"] = last
		plans[name+", alone"] = impl.Plan{Stops: 4, Conns: []impl.Conn{c}}
	}
	return plans
}

// invalidConns are connections that are invalid by themselves in a timetable with four stops.
func invalidConns() map[string]impl.Conn {
	return map[string]impl.Conn{
		"From negative":      {From: -1, To: 1, Go: 5, Come: 10},
		"From too large":     {From: 4, To: 1, Go: 5, Come: 10},
		"From smallest":      {From: math.MinInt, To: 1, Go: 5, Come: 10},
		"To negative":        {From: 0, To: -1, Go: 5, Come: 10},
		"To too large":       {From: 0, To: 4, Go: 5, Come: 10},
		"To largest":         {From: 0, To: math.MaxInt, Go: 5, Come: 10},
		"To equal to From":   {From: 1, To: 1, Go: 5, Come: 10},
		"Go negative":        {From: 0, To: 1, Go: -1, Come: 10},
		"Go smallest":        {From: 0, To: 1, Go: math.MinInt, Come: 10},
		"Come before Go":     {From: 0, To: 1, Go: 5, Come: 4},
		"Come one too large": {From: 0, To: 1, Go: 5, Come: impl.TimeMax + 1},
		"both too large":     {From: 0, To: 1, Go: impl.TimeMax + 1, Come: impl.TimeMax + 1},
		"Trip negative":      {From: 0, To: 1, Go: 5, Come: 10, Trip: -1},
		"Trip one too large": {From: 0, To: 1, Go: 5, Come: 10, Trip: impl.TripsMax},
		"Trip largest":       {From: 0, To: 1, Go: 5, Come: 10, Trip: math.MaxInt},
		"Trip smallest":      {From: 0, To: 1, Go: 5, Come: 10, Trip: math.MinInt},
	}
}

// noStops are numbers that are not stops of p.
func noStops(p impl.Plan) []int {
	return []int{-1, p.Stops, p.Stops + 1, math.MinInt, math.MaxInt}
}

// noTimes are numbers that are not times.
func noTimes() []int {
	return []int{-1, impl.TimeMax + 1, impl.Far, math.MinInt, math.MaxInt}
}

// samePlan compares timetables; no connections may be nil or empty.
func samePlan(a impl.Plan, b impl.Plan) bool {
	return a.Stops == b.Stops && a.Change == b.Change && slices.Equal(a.Conns, b.Conns)
}

// eachPlan runs a test for every valid timetable and each of its stops.
func eachPlan(t *testing.T, test func(t *testing.T, p impl.Plan, from int)) {
	t.Helper()
	for _, p := range validPlans() {
		for from := range p.Stops {
			test(t, p, from)
			if t.Failed() {
				t.Fatalf("from %d in the timetable %v", from, p)
			}
		}
	}
}

// departures are the times at which journeys can differ, with those before and behind them.
func departures(p impl.Plan) []int {
	list := []int{0, impl.TimeMax}
	for _, c := range p.Conns {
		list = append(list, max(0, c.Go-1), c.Go, min(impl.TimeMax, c.Go+1), c.Come)
	}
	slices.Sort(list)
	return slices.Compact(list)
}

// nextOfTrip is the next connection of the same trip, or -1.
func nextOfTrip(p impl.Plan, conn int) int {
	for i := conn + 1; i < len(p.Conns); i++ {
		if p.Conns[i].Trip == p.Conns[conn].Trip {
			return i
		}
	}
	return -1
}

// journeys is the earliest arrivals at each stop for each number of trips, by all the ways to come to a connection with a set of trips.
func journeys(p impl.Plan, from int, at int) [impl.TripsMax + 1][]int {
	var all [impl.TripsMax + 1][]int
	for trips := range all {
		all[trips] = slices.Repeat([]int{impl.Far}, p.Stops)
		all[trips][from] = at
	}
	var seen [impl.ConnsMax][1 << impl.TripsMax]bool
	var ride func(conn int, used uint)
	ride = func(conn int, used uint) {
		c := p.Conns[conn]
		used |= 1 << c.Trip
		if seen[conn][used] {
			return
		}
		seen[conn][used] = true
		many := 0
		for trip := range impl.TripsMax {
			many += int(used >> trip & 1)
		}
		for trips := many; trips <= impl.TripsMax; trips++ {
			all[trips][c.To] = min(all[trips][c.To], c.Come)
		}
		for i, next := range p.Conns {
			if i == nextOfTrip(p, conn) || next.From == c.To && next.Go >= c.Come+p.Change {
				ride(i, used)
			}
		}
	}
	for i, c := range p.Conns {
		if c.From == from && c.Go >= at {
			ride(i, 0)
		}
	}
	return all
}

// checkInts expects a list of numbers.
func checkInts(t *testing.T, what string, got []int, want ...int) {
	t.Helper()
	if !slices.Equal(got, want) {
		t.Errorf("%s is %v, not %v", what, got, want)
	}
}

// checkStair expects a profile of a timetable.
func checkStair(t *testing.T, p impl.Plan, from int, to int, want []impl.Step) {
	t.Helper()
	got, ok := impl.PlanStair(p, from, to)
	checkSteps(t, "the profile", got, want)
	if !ok {
		t.Error("the profile from", from, "to", to, "fails")
	}
}

func TestPlanExamples(t *testing.T) {
	p := railway()
	if !impl.PlanOk(p) {
		t.Error("the railway is invalid")
	}
	checkInts(t, "from the beginning", impl.PlanAll(p, 0, 0), 0, 10, 25, 40)
	checkInts(t, "in the last moment", impl.PlanAll(p, 0, 5), 5, 10, 25, 40)
	checkInts(t, "too late", impl.PlanAll(p, 0, 6), 6, impl.Far, impl.Far, impl.Far)
	// Who starts at the second stop needs no time to change there.
	checkInts(t, "from the second stop", impl.PlanAll(p, 1, 12), impl.Far, 12, 20, 40)
	checkInts(t, "from the last stop", impl.PlanAll(p, 3, 0), impl.Far, impl.Far, impl.Far, 0)
	checkStair(t, p, 0, 2, steps([2]int{5, 25}))
	checkStair(t, p, 1, 2, steps([2]int{12, 20}, [2]int{13, 25}))
	checkStair(t, p, 1, 3, steps([2]int{13, 40}))
	checkStair(t, p, 3, 0, nil)
	late, ok := impl.PlanLate(p, 1, 1)
	if want := timetable(4, 3, [5]int{0, 1, 5, 10, 0}, [5]int{1, 2, 11, 30, 0}, [5]int{1, 2, 13, 21, 1}, [5]int{1, 2, 13, 25, 2}, [5]int{2, 3, 30, 40, 0}); !ok || !samePlan(late, want) {
		t.Error("the second trip is late by 1:", late, ok)
	}
	checkInts(t, "with a late trip", impl.PlanAll(late, 0, 0), 0, 10, 21, 40)
}

// Who stays on the trip does not change.
func TestStayingOnTheTripTakesNoTimeToChange(t *testing.T) {
	p := timetable(3, impl.ChangeMax, [5]int{0, 1, 5, 10, 0}, [5]int{1, 2, 10, 15, 0}, [5]int{1, 2, 10, 11, 1}, [5]int{1, 2, 10, 10, 2})
	checkInts(t, "from the beginning", impl.PlanAll(p, 0, 0), 0, 10, 15)
	checkStair(t, p, 0, 2, steps([2]int{5, 15}))
	// Another trip comes to the second stop earlier, but too late to change.
	p = timetable(3, 3, [5]int{0, 1, 5, 10, 0}, [5]int{0, 1, 6, 8, 1}, [5]int{1, 2, 10, 15, 0})
	checkInts(t, "with a quicker trip", impl.PlanAll(p, 0, 0), 0, 8, 15)
	checkInts(t, "with the quicker trip alone", impl.PlanAll(p, 0, 6), 6, 8, impl.Far)
	// A trip that passes its stops again.
	p = timetable(3, 20, [5]int{0, 1, 1, 2, 4}, [5]int{1, 0, 2, 3, 4}, [5]int{0, 2, 3, 4, 4})
	checkInts(t, "with a trip there and back", impl.PlanAll(p, 0, 1), 1, 2, 4)
	checkInts(t, "from the middle of it", impl.PlanAll(p, 1, 0), 3, 0, 4)
	// Who boards later was not on the trip before.
	checkInts(t, "from the end of it", impl.PlanAll(p, 0, 2), 2, impl.Far, 4)
	p = timetable(4, 0, [5]int{0, 1, 1, 2, 0}, [5]int{1, 2, 2, 3, 0}, [5]int{0, 2, 3, 3, 1}, [5]int{2, 3, 3, 4, 0})
	checkInts(t, "who catches its last part", impl.PlanAll(p, 0, 2), 2, impl.Far, 3, 4)
}

func TestChangingTakesTime(t *testing.T) {
	for change := range impl.ChangeMax + 1 {
		for gap := range impl.ChangeMax + 5 {
			p := timetable(3, change, [5]int{0, 1, 5, 10, 0}, [5]int{1, 2, 10 + gap, 50, 1})
			want := impl.Far
			if gap >= change {
				want = 50
			}
			checkInts(t, "behind a change", impl.PlanAll(p, 0, 5), 5, 10, want)
			checkInts(t, "without a change", impl.PlanAll(p, 1, 10+gap), impl.Far, 10+gap, 50)
		}
	}
}

// A connection that takes no time.
func TestConnectionsThatTakeNoTime(t *testing.T) {
	far := impl.Far
	checkInts(t, "in any order", impl.PlanAll(atOnce(0), 0, 3), 3, 9, 9, 9, 9, 9, 9)
	checkInts(t, "from the middle", impl.PlanAll(atOnce(0), 3, 9), far, far, far, 9, 9, 9, 9)
	checkInts(t, "too late", impl.PlanAll(atOnce(0), 0, 10), 10, far, far, far, far, far, far)
	checkInts(t, "with time to change", impl.PlanAll(atOnce(1), 0, 3), 3, 9, far, far, far, far, far)
	checkStair(t, atOnce(0), 0, 6, steps([2]int{9, 9}))
	checkStair(t, atOnce(1), 0, 6, nil)
	checkStair(t, atOnce(1), 5, 6, steps([2]int{9, 9}))
	checkInts(t, "in a ring", impl.PlanAll(roundAtOnce(), 0, 9), 9, 9, 9, 9, 9, 9, 9, 9)
	// One may change to an earlier connection of the same trip, if no time is needed.
	p := timetable(3, 0, [5]int{0, 1, 9, 9, 0}, [5]int{1, 2, 9, 9, 0}, [5]int{2, 0, 9, 9, 0})
	checkInts(t, "from the end of a trip", impl.PlanAll(p, 2, 0), 9, 9, 0)
	p.Change = 1
	checkInts(t, "from the end of a trip, with time to change", impl.PlanAll(p, 2, 0), 9, far, 0)
	checkInts(t, "from its beginning", impl.PlanAll(p, 0, 0), 0, 9, 9)
	// What goes on at once may stand first, and have more behind it.
	p = timetable(4, 0, [5]int{1, 2, 9, 9, 0}, [5]int{0, 1, 9, 9, 1}, [5]int{2, 3, 9, 12, 0}, [5]int{2, 3, 10, 14, 2})
	checkInts(t, "and then a connection of the same trip", impl.PlanAll(p, 0, 0), 0, 9, 9, 12)
}

func TestPlansAtTheLimits(t *testing.T) {
	p := fullPlan()
	if !impl.PlanOk(p) || len(p.Conns) != impl.ConnsMax {
		t.Fatal("the largest timetable is invalid")
	}
	checkInts(t, "in the largest timetable", impl.PlanAll(p, 0, 0), 0, 1, 2, 3, 4, 5, 6, 7)
	checkInts(t, "at the last time", impl.PlanAll(p, 7, impl.TimeMax), impl.TimeMax, impl.Far, impl.Far, impl.Far, impl.Far, impl.Far, impl.Far, impl.TimeMax)
	checkInts(t, "in the smallest timetable", impl.PlanAll(impl.Plan{Stops: 1}, 0, impl.TimeMax), impl.TimeMax)
	last := timetable(2, 0, [5]int{0, 1, 0, impl.TimeMax, 0})
	if !impl.PlanOk(last) {
		t.Error("the longest connection is invalid")
	}
	checkStair(t, last, 0, 1, steps([2]int{0, impl.TimeMax}))
	// The next connection of a trip may leave at once.
	if !impl.PlanOk(timetable(2, 20, [5]int{0, 1, 5, 9, 0}, [5]int{1, 0, 9, 9, 0}, [5]int{0, 1, 9, 9, 0})) {
		t.Error("a trip that does not wait is invalid")
	}
	// Within the limits of a timetable no profile is longer than this one.
	want := []impl.Step{}
	for at := 0; at <= 100; at += 10 {
		want = append(want, impl.Step{Go: at, Come: at + 5})
	}
	checkStair(t, shuttle(), 0, 1, want)
	if len(want) != 11 || len(shuttle().Conns) != impl.ConnsMax {
		t.Error("the shuttle is not the longest one")
	}
}

func TestInvalidPlans(t *testing.T) {
	for name, p := range invalidPlans() {
		t.Run(name, func(t *testing.T) {
			if impl.PlanOk(p) {
				t.Error("PlanOk is true")
			}
			if all := impl.PlanAll(p, 0, 0); len(all) != 0 {
				t.Error("PlanAll is", all)
			}
			checkNoStair(t, p, 0, 1)
			checkNoPlanLate(t, p, 0, 0)
			checkNoPlanLate(t, p, 1, 5)
		})
	}
}

// checkNoStair expects that there is no profile.
func checkNoStair(t *testing.T, p impl.Plan, from int, to int) {
	t.Helper()
	if s, ok := impl.PlanStair(p, from, to); ok || len(s) != 0 {
		t.Errorf("the profile from %d to %d is %v %v", from, to, s, ok)
	}
}

// checkNoPlanLate expects that a trip cannot be delayed.
func checkNoPlanLate(t *testing.T, p impl.Plan, trip int, late int) {
	t.Helper()
	if got, ok := impl.PlanLate(p, trip, late); ok || !samePlan(got, impl.Plan{}) {
		t.Errorf("with trip %d late by %d it is %v %v", trip, late, got, ok)
	}
}

func TestPlansWithInvalidArguments(t *testing.T) {
	for _, p := range validPlans()[:30] {
		for _, bad := range noStops(p) {
			if all := impl.PlanAll(p, bad, 0); len(all) != 0 {
				t.Error("from", bad, "PlanAll is", all)
			}
			checkNoStair(t, p, bad, 0)
			checkNoStair(t, p, 0, bad)
			checkNoStair(t, p, bad, bad)
		}
		for stop := range p.Stops {
			checkNoStair(t, p, stop, stop)
		}
		for _, bad := range noTimes() {
			if all := impl.PlanAll(p, 0, bad); len(all) != 0 {
				t.Error("at", bad, "PlanAll is", all)
			}
			checkNoPlanLate(t, p, 0, bad)
		}
		for _, bad := range []int{-1, impl.TripsMax, math.MinInt, math.MaxInt} {
			checkNoPlanLate(t, p, bad, 0)
		}
	}
}

func TestArrivalsAreThoseOfTheBestJourneys(t *testing.T) {
	eachPlan(t, func(t *testing.T, p impl.Plan, from int) {
		if !impl.PlanOk(p) {
			t.Error("it is invalid")
		}
		for _, at := range departures(p) {
			checkInts(t, "leaving then", impl.PlanAll(p, from, at), journeys(p, from, at)[impl.TripsMax]...)
		}
	})
}

// P29
func TestLeavingLaterNeverMeansArrivingEarlierByTimetable(t *testing.T) {
	eachPlan(t, func(t *testing.T, p impl.Plan, from int) {
		before := make([]int, p.Stops)
		for at := range impl.TimeMax + 1 {
			all := impl.PlanAll(p, from, at)
			if len(all) != p.Stops || all[from] != at {
				t.Fatal("at", at, "PlanAll is", all)
			}
			for stop, come := range all {
				if come < before[stop] {
					t.Errorf("leaving at %d comes to %d at %d, but before it was %d", at, stop, come, before[stop])
				}
				arrives := slices.ContainsFunc(p.Conns, func(c impl.Conn) bool { return c.To == stop && c.Come == come })
				if stop != from && come != impl.Far && !arrives {
					t.Errorf("nothing comes to %d at %d", stop, come)
				}
			}
			before = all
		}
	})
}

// P30
func TestReachableConnectionsBoundTheArrival(t *testing.T) {
	eachPlan(t, func(t *testing.T, p impl.Plan, from int) {
		for _, at := range departures(p) {
			all := impl.PlanAll(p, from, at)
			for i, c := range p.Conns {
				if !(c.From == from && c.Go >= at) && all[c.From]+p.Change > c.Go {
					continue
				}
				for later := i; later >= 0; later = nextOfTrip(p, later) {
					if to := p.Conns[later].To; all[to] > p.Conns[later].Come {
						t.Errorf("leaving at %d comes to %d at %d, but connection %d is earlier", at, to, all[to], later)
					}
				}
			}
		}
	})
}

// P31
func TestProfileAgreesWithSingleQueries(t *testing.T) {
	several := 0
	eachPlan(t, func(t *testing.T, p impl.Plan, from int) {
		for to := range p.Stops {
			if to == from {
				continue
			}
			s, ok := impl.PlanStair(p, from, to)
			if !ok || !impl.StairOk(s) {
				t.Fatal("the profile to", to, "is", s, ok)
			}
			if len(s) > 1 {
				several++
			}
			for at := range impl.TimeMax + 1 {
				if got, want := impl.StairAt(s, at), impl.PlanAll(p, from, at)[to]; got != want {
					t.Errorf("leaving at %d the profile %v comes to %d at %d, not %d", at, s, to, got, want)
				}
			}
		}
	})
	if several < 100 {
		t.Error("only", several, "profiles have several steps")
	}
}

// lateByHand is a timetable one of whose trips is late, and whether it keeps to the last time.
func lateByHand(p impl.Plan, trip int, late int) (impl.Plan, bool) {
	delayed := impl.Plan{Stops: p.Stops, Change: p.Change}
	for _, c := range p.Conns {
		if c.Trip == trip {
			c = impl.Conn{From: c.From, To: c.To, Go: c.Go + late, Come: c.Come + late, Trip: trip}
			if c.Come > impl.TimeMax {
				return impl.Plan{}, false
			}
		}
		delayed.Conns = append(delayed.Conns, c)
	}
	delayed.Conns = byGo(delayed.Conns)
	return delayed, true
}

// P32
func TestDelayedTripRunsLater(t *testing.T) {
	done, refused := 0, 0
	for _, p := range validPlans() {
		for trip := range impl.TripsMax {
			for _, late := range []int{0, 1, 2, 3, 7, 20, 60, 150, 190, impl.TimeMax} {
				got, ok := impl.PlanLate(p, trip, late)
				want, possible := lateByHand(p, trip, late)
				if ok != possible || !samePlan(got, want) {
					t.Fatalf("with trip %d late by %d, %v is %v %v", trip, late, p, got, ok)
				}
				if ok && (!impl.PlanOk(got) || len(got.Conns) != len(p.Conns)) || late == 0 && !samePlan(got, p) {
					t.Fatalf("with trip %d late by %d, %v is %v", trip, late, p, got)
				}
				if ok {
					done++
				} else {
					refused++
				}
			}
		}
	}
	if done < 100 || refused < 100 {
		t.Error("there are", done, "delays and", refused, "refused ones")
	}
}

func TestDelaysAtTheLimits(t *testing.T) {
	// The connections that then go together keep their order, whichever is late.
	p := timetable(3, 0, [5]int{0, 1, 5, 6, 0}, [5]int{0, 2, 7, 8, 1}, [5]int{1, 2, 7, 9, 0}, [5]int{2, 1, 9, 9, 2})
	got, ok := impl.PlanLate(p, 0, 2)
	if want := timetable(3, 0, [5]int{0, 1, 7, 8, 0}, [5]int{0, 2, 7, 8, 1}, [5]int{1, 2, 9, 11, 0}, [5]int{2, 1, 9, 9, 2}); !ok || !samePlan(got, want) {
		t.Error("the first trip is late by 2:", got, ok)
	}
	got, ok = impl.PlanLate(p, 1, 2)
	if want := timetable(3, 0, [5]int{0, 1, 5, 6, 0}, [5]int{1, 2, 7, 9, 0}, [5]int{0, 2, 9, 10, 1}, [5]int{2, 1, 9, 9, 2}); !ok || !samePlan(got, want) {
		t.Error("the second trip is late by 2:", got, ok)
	}
	if got, ok = impl.PlanLate(p, 2, impl.TimeMax-9); !ok || got.Conns[3].Come != impl.TimeMax {
		t.Error("until the last time:", got, ok)
	}
	checkNoPlanLate(t, p, 2, impl.TimeMax-8)
	// A trip that does not run can be as late as any.
	if got, ok = impl.PlanLate(p, impl.TripsMax-1, impl.TimeMax); !ok || !samePlan(got, p) {
		t.Error("a trip without connections:", got, ok)
	}
	if got, ok = impl.PlanLate(timetable(2, 0, [5]int{0, 1, 0, 0, 0}), 0, impl.TimeMax); !ok || got.Conns[0].Go != impl.TimeMax {
		t.Error("from the first time to the last one:", got, ok)
	}
}

// P33
func TestLongerChangeTimesNeverHelp(t *testing.T) {
	worse := 0
	eachPlan(t, func(t *testing.T, p impl.Plan, from int) {
		for _, at := range departures(p) {
			before := make([]int, p.Stops)
			for p.Change = range impl.ChangeMax + 1 {
				all := impl.PlanAll(p, from, at)
				for stop, come := range all {
					if come < before[stop] {
						t.Errorf("with %d to change, leaving at %d comes to %d at %d, but with less at %d", p.Change, at, stop, come, before[stop])
					}
					if p.Change > 0 && come > before[stop] {
						worse++
					}
				}
				before = all
			}
		}
	})
	if worse < 100 {
		t.Error("only", worse, "arrivals depend on the time to change")
	}
}

// P107
func TestTimetableIsAtLeastAsGoodAsOneConnection(t *testing.T) {
	for _, p := range validPlans() {
		for _, c := range p.Conns {
			s, ok := impl.PlanStair(p, c.From, c.To)
			if !ok || impl.StairAt(s, c.Go) > c.Come {
				t.Fatalf("in %v the profile from %d to %d is %v %v", p, c.From, c.To, s, ok)
			}
		}
	}
}

package tests

import (
	"math"
	"math/rand/v2"
	"slices"
	"testing"

	"loop.example/waymark/impl"
)

// steps makes steps of times to go and to come.
func steps(times ...[2]int) []impl.Step {
	var list []impl.Step
	for _, pair := range times {
		list = append(list, impl.Step{Go: pair[0], Come: pair[1]})
	}
	return list
}

// morning is a profile with few departures.
func morning() []impl.Step {
	return steps([2]int{5, 10}, [2]int{20, 30})
}

// midday is a profile that goes on from the morning's first arrival.
func midday() []impl.Step {
	return steps([2]int{10, 12}, [2]int{29, 40}, [2]int{35, 50})
}

// fullStair has as many steps as there may be, from the first time to the last one.
func fullStair() []impl.Step {
	var s []impl.Step
	for i := range impl.StepsMax - 1 {
		s = append(s, impl.Step{Go: i, Come: impl.TimeMax - impl.StepsMax + i})
	}
	return append(s, impl.Step{Go: impl.TimeMax, Come: impl.TimeMax})
}

// scatteredSteps are arbitrary valid steps that take at most so long.
func scatteredSteps(r *rand.Rand, many int, long int) []impl.Step {
	var list []impl.Step
	for range many {
		leave := r.IntN(impl.TimeMax + 1)
		list = append(list, impl.Step{Go: leave, Come: min(impl.TimeMax, leave+r.IntN(long+1))})
	}
	return list
}

// arrival is the earliest arrival by its definition, for steps in any order.
func arrival(list []impl.Step, at int) int {
	best := impl.Far
	for _, step := range list {
		if step.Go >= at {
			best = min(best, step.Come)
		}
	}
	return best
}

// stairByHand is the profile of steps: a departure at each time behind which the arrival is later.
func stairByHand(list []impl.Step) []impl.Step {
	var s []impl.Step
	for at := range impl.TimeMax + 1 {
		if come := arrival(list, at); come < arrival(list, at+1) {
			s = append(s, impl.Step{Go: at, Come: come})
		}
	}
	return s
}

// times are all times and some beyond them on both sides.
func times() []int {
	list := []int{math.MinInt, -1000, math.MaxInt, impl.Far - 1, impl.Far, impl.Far + 1}
	for at := -2; at <= impl.TimeMax+2; at++ {
		list = append(list, at)
	}
	return list
}

// validStairs are the profiles on which the promises are tested.
func validStairs() [][]impl.Step {
	list := [][]impl.Step{nil, {}, morning(), midday(), fullStair(), steps([2]int{0, 0}), steps([2]int{impl.TimeMax, impl.TimeMax}), steps([2]int{0, impl.TimeMax})}
	r := source()
	for i := range 92 {
		s := stairByHand(scatteredSteps(r, 1+i%30, []int{0, 5, 20, impl.TimeMax}[i%4]))
		list = append(list, s[:min(len(s), impl.StepsMax)])
	}
	return list
}

// invalidStairs are lists of steps that break one rule each, by which they are not profiles.
// Those that are not in order are steps of a profile nevertheless.
func invalidStairs() map[string][]impl.Step {
	lists := invalidSteps()
	lists["same Go"] = steps([2]int{5, 10}, [2]int{5, 12})
	lists["same Come"] = steps([2]int{5, 10}, [2]int{6, 10})
	lists["same step"] = steps([2]int{5, 10}, [2]int{5, 10})
	lists["Go descends"] = steps([2]int{5, 10}, [2]int{4, 12})
	lists["Come descends"] = steps([2]int{5, 10}, [2]int{6, 9})
	lists["both descend"] = steps([2]int{20, 30}, [2]int{5, 10})
	lists["the last one descends"] = append(morning(), impl.Step{Go: 21, Come: 29})
	lists["the last one goes together"] = append(morning(), impl.Step{Go: 20, Come: 31})
	lists["one step too many"] = slices.Concat(fullStair()[:impl.StepsMax-1], steps([2]int{198, 198}, [2]int{199, 199}))
	lists["far too many"] = make([]impl.Step, 5000)
	return lists
}

// invalidSteps are lists with one step that is invalid by itself.
func invalidSteps() map[string][]impl.Step {
	lists := map[string][]impl.Step{}
	for name, step := range map[string]impl.Step{
		"Go negative":        {Go: -1, Come: 3},
		"Go smallest":        {Go: math.MinInt, Come: 3},
		"both negative":      {Go: -2, Come: -1},
		"both one too large": {Go: impl.TimeMax + 1, Come: impl.TimeMax + 1},
		"Go one too large":   {Go: impl.TimeMax + 1, Come: impl.TimeMax},
		"Come before Go":     {Go: 100, Come: 99},
		"Come negative":      {Go: 0, Come: -1},
		"Come one too large": {Go: 100, Come: impl.TimeMax + 1},
		"Come largest":       {Go: 100, Come: math.MaxInt},
		"both largest":       {Go: math.MaxInt, Come: math.MaxInt},
		"far away":           {Go: impl.Far, Come: impl.Far},
	} {
		lists[name] = []impl.Step{step}
		lists[name+", last"] = append(morning(), step)
		lists[name+", first"] = slices.Concat([]impl.Step{step}, steps([2]int{110, 150}))
	}
	return lists
}

// eachStair runs a test for every valid profile.
func eachStair(t *testing.T, test func(t *testing.T, s []impl.Step)) {
	t.Helper()
	for _, s := range validStairs() {
		test(t, s)
		if t.Failed() {
			t.Fatalf("with the profile %v", s)
		}
	}
}

// eachTwoStairs runs a test for every pair of valid profiles.
func eachTwoStairs(t *testing.T, test func(t *testing.T, a []impl.Step, b []impl.Step)) {
	t.Helper()
	eachStair(t, func(t *testing.T, a []impl.Step) {
		eachStair(t, func(t *testing.T, b []impl.Step) { test(t, a, b) })
	})
}

// checkSteps expects steps.
func checkSteps(t *testing.T, what string, got []impl.Step, want []impl.Step) {
	t.Helper()
	if !slices.Equal(got, want) {
		t.Errorf("%s is %v, not %v", what, got, want)
	}
}

func TestStairExamples(t *testing.T) {
	for at, want := range map[int]int{-1: 10, 0: 10, 5: 10, 6: 30, 20: 30, 21: impl.Far} {
		if got := impl.StairAt(morning(), at); got != want {
			t.Errorf("leaving at %d comes at %d, not %d", at, got, want)
		}
	}
	for by, want := range map[int]int{9: -1, 10: 5, 29: 5, 30: 20, impl.Far: 20} {
		if got := impl.StairLast(morning(), by); got != want {
			t.Errorf("to come by %d leave at %d, not %d", by, got, want)
		}
	}
	checkSteps(t, "the link", impl.StairLink(morning(), midday()), steps([2]int{5, 12}, [2]int{20, 50}))
	best, ok := impl.StairBest(morning(), midday())
	checkSteps(t, "the best", best, steps([2]int{5, 10}, [2]int{10, 12}, [2]int{20, 30}, [2]int{29, 40}, [2]int{35, 50}))
	if !ok {
		t.Error("the best fails")
	}
}

func TestStepsThatAreOfNoUse(t *testing.T) {
	for _, c := range []struct {
		name string
		list []impl.Step
		want []impl.Step
	}{
		{"later and earlier", steps([2]int{5, 20}, [2]int{10, 15}, [2]int{3, 30}), steps([2]int{10, 15})},
		{"later and together", steps([2]int{5, 15}, [2]int{10, 15}), steps([2]int{10, 15})},
		{"together and earlier", steps([2]int{5, 15}, [2]int{5, 14}, [2]int{5, 16}), steps([2]int{5, 14})},
		{"the same", steps([2]int{5, 15}, [2]int{5, 15}), steps([2]int{5, 15})},
		{"later and later", steps([2]int{6, 16}, [2]int{5, 15}), steps([2]int{5, 15}, [2]int{6, 16})},
		{"nothing", nil, nil},
		{"no time at all", steps([2]int{7, 7}, [2]int{0, 0}, [2]int{0, 7}), steps([2]int{0, 0}, [2]int{7, 7})},
	} {
		got, ok := impl.StairOf(c.list)
		checkSteps(t, c.name, got, c.want)
		if !ok {
			t.Error(c.name, "fails")
		}
	}
	// Both departures come in time for the same one of the second profile.
	checkSteps(t, "the link", impl.StairLink(steps([2]int{1, 2}, [2]int{3, 4}), steps([2]int{9, 11})), steps([2]int{3, 11}))
	checkSteps(t, "the link that is missed", impl.StairLink(steps([2]int{1, 2}, [2]int{3, 4}), steps([2]int{2, 3})), steps([2]int{1, 3}))
	best, ok := impl.StairBest(morning(), steps([2]int{6, 10}, [2]int{20, 29}))
	checkSteps(t, "the best", best, steps([2]int{6, 10}, [2]int{20, 29}))
	if !ok {
		t.Error("the best fails")
	}
}

func TestStairsAtTheLimits(t *testing.T) {
	full := fullStair()
	if !impl.StairOk(full) || len(full) != impl.StepsMax || impl.StairAt(full, impl.TimeMax) != impl.TimeMax || impl.StairAt(full, impl.TimeMax+1) != impl.Far {
		t.Error("the longest profile is invalid")
	}
	if s, ok := impl.StairOf(full); !ok || !slices.Equal(s, full) {
		t.Error("the profile of the longest profile is", s, ok)
	}
	// Any number of steps makes a profile, if it is not too long.
	var many []impl.Step
	for leave := range impl.TimeMax + 1 {
		for come := leave; come <= impl.TimeMax; come++ {
			if come-leave > impl.TimeMax-impl.StepsMax {
				many = append(many, impl.Step{Go: leave, Come: come})
			}
		}
	}
	if s, ok := impl.StairOf(slices.Repeat(many, 50)); !ok || len(s) != impl.StepsMax {
		t.Error("the profile of many steps is", s, ok)
	}
	more := append(full[:impl.StepsMax-1:impl.StepsMax-1], impl.Step{Go: 198, Come: 198}, impl.Step{Go: 199, Come: 199})
	if s, ok := impl.StairOf(more); ok || len(s) != 0 {
		t.Error("the profile of one step too many is", s, ok)
	}
	if s, ok := impl.StairBest(full[:impl.StepsMax-1], more[impl.StepsMax-1:]); ok || len(s) != 0 {
		t.Error("the best with one step too many is", s, ok)
	}
	if s, ok := impl.StairBest(full, more[impl.StepsMax:]); !ok || !slices.Equal(s, full) {
		t.Error("the best with as many steps as there may be is", s, ok)
	}
}

func TestInvalidStairs(t *testing.T) {
	for name, s := range invalidStairs() {
		t.Run(name, func(t *testing.T) {
			if impl.StairOk(s) {
				t.Error("StairOk is true")
			}
			for _, time := range []int{math.MinInt, -1, 0, 5, impl.TimeMax, impl.TimeMax + 1, impl.Far, math.MaxInt} {
				if at, last := impl.StairAt(s, time), impl.StairLast(s, time); at != -1 || last != -1 {
					t.Error("at", time, "there are", at, last)
				}
			}
			for _, other := range [][]impl.Step{nil, morning(), midday(), fullStair(), s} {
				if one, two := impl.StairLink(s, other), impl.StairLink(other, s); len(one)+len(two) != 0 {
					t.Error("links with", other, "are", one, two)
				}
				one, ok := impl.StairBest(s, other)
				two, also := impl.StairBest(other, s)
				if ok || also || len(one)+len(two) != 0 {
					t.Error("the best with", other, "is", one, ok, two, also)
				}
			}
		})
	}
}

func TestStairOfInvalidSteps(t *testing.T) {
	for name, list := range invalidSteps() {
		if s, ok := impl.StairOf(list); ok || len(s) != 0 {
			t.Error(name, "is", s, ok)
		}
		// Where a profile would be too long, and where the step would be of no use, it is invalid as well.
		if s, ok := impl.StairOf(slices.Concat(fullStair(), list)); ok || len(s) != 0 {
			t.Error(name, "behind others is", s, ok)
		}
	}
}

// P22
func TestLeavingLaterNeverMeansArrivingEarlier(t *testing.T) {
	eachStair(t, func(t *testing.T, s []impl.Step) {
		if !impl.StairOk(s) {
			t.Error("it is invalid")
		}
		for _, at := range times() {
			got := impl.StairAt(s, at)
			if got != arrival(s, at) {
				t.Errorf("leaving at %d comes at %d, not %d", at, got, arrival(s, at))
			}
			if at < math.MaxInt && impl.StairAt(s, at+1) < got {
				t.Error("leaving later than", at, "comes earlier than", got)
			}
		}
	})
}

// P23
func TestProfileRepresentsItsSteps(t *testing.T) {
	r := source()
	short, long := 0, 0
	for i := range 2000 {
		list := scatteredSteps(r, r.IntN(60), []int{0, 1, 10, 60, impl.TimeMax}[i%5])
		want := stairByHand(list)
		got, ok := impl.StairOf(list)
		if len(want) > impl.StepsMax {
			long++
			want = nil
		} else {
			short++
		}
		if ok != (want != nil || len(list) == 0) || !slices.Equal(got, want) {
			t.Fatalf("the profile of %v is %v %v, not %v", list, got, ok, want)
		}
		for at := -1; ok && at <= impl.TimeMax+1; at++ {
			if impl.StairAt(got, at) != arrival(list, at) {
				t.Fatalf("the profile of %v at %d is %d", list, at, impl.StairAt(got, at))
			}
		}
		r.Shuffle(len(list), func(i int, k int) { list[i], list[k] = list[k], list[i] })
		mixed, same := impl.StairOf(list)
		if same != ok || !slices.Equal(mixed, got) {
			t.Fatalf("in the order %v the profile is %v, not %v", list, mixed, got)
		}
		if again, same := impl.StairOf(got); !same || !slices.Equal(again, got) {
			t.Fatalf("the profile of the profile %v is %v", got, again)
		}
	}
	if short < 100 || long < 100 {
		t.Error("there are", short, "short and", long, "long profiles")
	}
}

// linkByHand is the arrival by two profiles, one behind the other.
func linkByHand(a []impl.Step, b []impl.Step, at int) int {
	between := arrival(a, at)
	if between == impl.Far {
		return impl.Far
	}
	return arrival(b, between)
}

// P24
func TestLinkingComposesArrivals(t *testing.T) {
	eachTwoStairs(t, func(t *testing.T, a []impl.Step, b []impl.Step) {
		link := impl.StairLink(a, b)
		if !impl.StairOk(link) {
			t.Fatal("the link is invalid:", link)
		}
		for at := -1; at <= impl.TimeMax+1; at++ {
			if got := impl.StairAt(link, at); got != linkByHand(a, b, at) {
				t.Errorf("leaving at %d comes at %d, not %d", at, got, linkByHand(a, b, at))
			}
		}
	})
}

// P25
func TestLinkingIsAssociative(t *testing.T) {
	list := validStairs()[:40]
	for _, a := range list {
		for _, b := range list {
			for _, c := range list {
				left, right := impl.StairLink(impl.StairLink(a, b), c), impl.StairLink(a, impl.StairLink(b, c))
				if !slices.Equal(left, right) {
					t.Fatalf("%v, %v and %v are linked to %v and to %v", a, b, c, left, right)
				}
			}
		}
	}
}

// P26
func TestBestOfTwoProfilesIsTheirMinimum(t *testing.T) {
	eachTwoStairs(t, func(t *testing.T, a []impl.Step, b []impl.Step) {
		best, ok := impl.StairBest(a, b)
		other, also := impl.StairBest(b, a)
		if ok != also || !slices.Equal(best, other) {
			t.Error("the best is", best, ok, "but the other way round", other, also)
		}
		want := stairByHand(slices.Concat(a, b))
		if ok != (len(want) <= impl.StepsMax) || ok && !slices.Equal(best, want) || !ok && len(best) != 0 {
			t.Error("the best is", best, ok, "not", want)
		}
		for at := -1; ok && at <= impl.TimeMax+1; at++ {
			if got := impl.StairAt(best, at); got != min(impl.StairAt(a, at), impl.StairAt(b, at)) {
				t.Error("the best at", at, "is", got)
			}
		}
	})
}

// P27
func TestLastIsTheLatestPossibleDeparture(t *testing.T) {
	eachStair(t, func(t *testing.T, s []impl.Step) {
		for _, by := range times() {
			last := impl.StairLast(s, by)
			want := -1
			for _, step := range s {
				if step.Come <= by {
					want = max(want, step.Go)
				}
			}
			if last != want {
				t.Errorf("to come by %d leave at %d, not %d", by, last, want)
			}
			if last >= 0 && (impl.StairAt(s, last) > by || impl.StairAt(s, last+1) <= by && by < impl.Far) {
				t.Errorf("at %d and then, one comes at %d and at %d, by %d", last, impl.StairAt(s, last), impl.StairAt(s, last+1), by)
			}
		}
	})
}

// P28
func TestPeriodicProfileDepartsAtRegularIntervals(t *testing.T) {
	for _, long := range []int{0, 1, 5, 42, impl.TimeMax - 1, impl.TimeMax} {
		for from := range impl.TimeMax + 1 {
			for every := 1; every <= impl.TimeMax; every++ {
				var want []impl.Step
				for i := range impl.StepsMax {
					if leave := from + i*every; leave+long <= impl.TimeMax {
						want = append(want, impl.Step{Go: leave, Come: leave + long})
					}
				}
				got := impl.StairWalk(long, from, every)
				if !slices.Equal(got, want) || !impl.StairOk(got) {
					t.Fatalf("from %d every %d, for %d: %v, not %v", from, every, long, got, want)
				}
			}
		}
	}
}

func TestPeriodicProfileExamples(t *testing.T) {
	checkSteps(t, "the evening", impl.StairWalk(5, 180, 7), steps([2]int{180, 185}, [2]int{187, 192}, [2]int{194, 199}))
	checkSteps(t, "the last one", impl.StairWalk(0, impl.TimeMax, 1), steps([2]int{impl.TimeMax, impl.TimeMax}))
	checkSteps(t, "the longest one", impl.StairWalk(impl.TimeMax, 0, 1), steps([2]int{0, impl.TimeMax}))
	checkSteps(t, "what comes too late", impl.StairWalk(impl.TimeMax, 1, 1), nil)
	checkSteps(t, "the rarest ones", impl.StairWalk(0, 0, impl.TimeMax), steps([2]int{0, 0}, [2]int{impl.TimeMax, impl.TimeMax}))
	if got := impl.StairWalk(0, 0, 1); len(got) != impl.StepsMax {
		t.Error("the most frequent ones are", got)
	}
}

func TestPeriodicProfileOfInvalidTimes(t *testing.T) {
	for _, bad := range []int{math.MinInt, -1, impl.TimeMax + 1, math.MaxInt} {
		for _, c := range [][3]int{{bad, 0, 1}, {0, bad, 1}, {0, 0, bad}, {bad, bad, bad}} {
			checkSteps(t, "an invalid time", impl.StairWalk(c[0], c[1], c[2]), nil)
		}
	}
	checkSteps(t, "every 0", impl.StairWalk(0, 0, 0), nil)
}

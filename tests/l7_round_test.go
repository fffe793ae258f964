package tests

import (
	"math"
	"slices"
	"testing"

	"loop.example/waymark/impl"
)

// checkRounds expects the arrivals for each number of trips.
func checkRounds(t *testing.T, got [][]int, want ...[]int) {
	t.Helper()
	if !slices.EqualFunc(got, want, slices.Equal) {
		t.Errorf("the rounds are %v, not %v", got, want)
	}
}

// checkBest expects the best journeys, each a number of trips and an arrival.
func checkBest(t *testing.T, got []impl.Round, want ...[2]int) {
	t.Helper()
	same := func(r impl.Round, pair [2]int) bool { return r == impl.Round{Trips: pair[0], Come: pair[1]} }
	if !slices.EqualFunc(got, want, same) {
		t.Errorf("the best journeys are %v, not %v", got, want)
	}
}

// threeWays goes to stop 3 with one trip late, with two earlier, and with three earliest.
func threeWays() impl.Plan {
	return timetable(4, 1, [5]int{0, 3, 1, 90, 0}, [5]int{0, 1, 2, 10, 1}, [5]int{1, 3, 11, 60, 2}, [5]int{1, 2, 12, 20, 3}, [5]int{2, 3, 21, 30, 4})
}

func TestRoundExamples(t *testing.T) {
	p, far := railway(), impl.Far
	checkRounds(t, impl.RoundAll(p, 0, 2, 0), []int{2, far, far, far})
	checkRounds(t, impl.RoundAll(p, 0, 2, 1), []int{2, far, far, far}, []int{2, 10, 30, 40})
	checkRounds(t, impl.RoundAll(p, 0, 2, 3), []int{2, far, far, far}, []int{2, 10, 30, 40}, []int{2, 10, 25, 40}, []int{2, 10, 25, 40})
	checkBest(t, impl.RoundBest(p, 0, 2, 2), [2]int{1, 30}, [2]int{2, 25})
	checkBest(t, impl.RoundBest(p, 0, 3, 2), [2]int{1, 40})
	checkBest(t, impl.RoundBest(threeWays(), 0, 3, 0), [2]int{1, 90}, [2]int{2, 60}, [2]int{3, 30})
	checkBest(t, impl.RoundBest(threeWays(), 0, 3, 2), [2]int{2, 60}, [2]int{3, 30})
	// Who is there already needs no trip, and who cannot come there has no journey.
	checkBest(t, impl.RoundBest(p, 3, 3, 17), [2]int{0, 17})
	checkBest(t, impl.RoundBest(p, 0, 0, 0), [2]int{0, 0})
	checkBest(t, impl.RoundBest(p, 3, 0, 0))
	checkBest(t, impl.RoundBest(p, 0, 3, 6))
}

// Who stays on the trip does not change.
func TestStayingOnTheTripIsOneTrip(t *testing.T) {
	p := timetable(3, impl.ChangeMax, [5]int{0, 1, 1, 2, 4}, [5]int{1, 0, 2, 3, 4}, [5]int{0, 2, 3, 4, 4})
	checkRounds(t, impl.RoundAll(p, 0, 1, 1), []int{1, impl.Far, impl.Far}, []int{1, 2, 4})
	checkBest(t, impl.RoundBest(p, 1, 2, 0), [2]int{1, 4})
	p = fullPlan()
	checkBest(t, impl.RoundBest(p, 0, 7, 0), [2]int{1, 7})
	// Leaving a trip and boarding it again is the same trip.
	p = timetable(3, 0, [5]int{0, 1, 1, 2, 4}, [5]int{1, 2, 5, 6, 4})
	checkBest(t, impl.RoundBest(p, 0, 2, 0), [2]int{1, 6})
	// One may change to another trip and back.
	p = timetable(4, 1, [5]int{0, 1, 1, 5, 0}, [5]int{0, 2, 2, 3, 1}, [5]int{2, 1, 4, 4, 1}, [5]int{1, 3, 5, 9, 0})
	checkBest(t, impl.RoundBest(p, 0, 3, 0), [2]int{1, 9})
	checkBest(t, impl.RoundBest(p, 0, 3, 2), [2]int{2, 9})
}

// A connection that takes no time.
func TestRoundsThatTakeNoTime(t *testing.T) {
	p := atOnce(0)
	all := impl.RoundAll(p, 0, 9, impl.TripsMax)
	for trips, round := range all {
		for stop, come := range round {
			if (come == 9) != (stop <= trips) || come != 9 && come != impl.Far {
				t.Errorf("with %d trips one comes to %d at %d", trips, stop, come)
			}
		}
	}
	checkBest(t, impl.RoundBest(p, 0, impl.TripsMax, 0), [2]int{impl.TripsMax, 9})
	checkBest(t, impl.RoundBest(atOnce(1), 0, 2, 0))
	// The first trip is needed at the beginning and at the end. It is the same trip, so that all of them are enough.
	checkBest(t, impl.RoundBest(roundAtOnce(), 0, 7, 0), [2]int{impl.TripsMax, 9})
	p = timetable(3, 0, [5]int{0, 1, 9, 9, 0}, [5]int{1, 2, 9, 9, 0}, [5]int{2, 0, 9, 9, 0})
	checkBest(t, impl.RoundBest(p, 2, 1, 0), [2]int{1, 9})
}

func TestRoundsOfInvalidPlans(t *testing.T) {
	for name, p := range invalidPlans() {
		for most := range impl.TripsMax + 1 {
			if all := impl.RoundAll(p, 0, 0, most); len(all) != 0 {
				t.Error(name, "has the rounds", all)
			}
		}
		if best := impl.RoundBest(p, 0, 0, 0); len(best) != 0 {
			t.Error(name, "has the journeys", best)
		}
		if best := impl.RoundBest(p, 0, 1, 5); len(best) != 0 {
			t.Error(name, "has the journeys", best)
		}
	}
}

func TestRoundsWithInvalidArguments(t *testing.T) {
	for _, p := range validPlans()[:30] {
		var all [][][]int
		var best [][]impl.Round
		for _, bad := range noStops(p) {
			all = append(all, impl.RoundAll(p, bad, 0, 0), impl.RoundAll(p, bad, 0, impl.TripsMax))
			best = append(best, impl.RoundBest(p, bad, 0, 0), impl.RoundBest(p, 0, bad, 0), impl.RoundBest(p, bad, bad, 0))
		}
		for _, bad := range noTimes() {
			all = append(all, impl.RoundAll(p, 0, bad, 0), impl.RoundAll(p, 0, bad, impl.TripsMax))
			best = append(best, impl.RoundBest(p, 0, 0, bad), impl.RoundBest(p, 0, p.Stops-1, bad))
		}
		for _, bad := range []int{-1, impl.TripsMax + 1, math.MinInt, math.MaxInt} {
			all = append(all, impl.RoundAll(p, 0, 0, bad))
		}
		for _, rounds := range all {
			checkRounds(t, rounds)
		}
		for _, list := range best {
			checkBest(t, list)
		}
	}
}

// eachRounds runs a test for the rounds at some departures of every valid timetable, from each stop.
func eachRounds(t *testing.T, test func(t *testing.T, p impl.Plan, from int, at int, all [][]int)) {
	t.Helper()
	eachPlan(t, func(t *testing.T, p impl.Plan, from int) {
		for i, at := range departures(p) {
			if i%4 != from%4 {
				continue
			}
			all := impl.RoundAll(p, from, at, impl.TripsMax)
			if len(all) != impl.TripsMax+1 {
				t.Fatal("at", at, "the rounds are", all)
			}
			test(t, p, from, at, all)
		}
	})
}

func TestRoundsAreThoseOfTheBestJourneys(t *testing.T) {
	// How often one comes earlier with so many trips than with fewer.
	var better [impl.TripsMax + 1]int
	eachRounds(t, func(t *testing.T, p impl.Plan, from int, at int, all [][]int) {
		want := journeys(p, from, at)
		checkRounds(t, all, want[:]...)
		for trips := 1; trips <= impl.TripsMax; trips++ {
			if !slices.Equal(want[trips], want[trips-1]) {
				better[trips]++
			}
		}
	})
	for trips := 1; trips <= impl.TripsMax; trips++ {
		if better[trips] == 0 {
			t.Error("no journey needs", trips, "trips")
		}
	}
}

// P34
func TestMoreTripsNeverHurt(t *testing.T) {
	eachRounds(t, func(t *testing.T, p impl.Plan, from int, at int, all [][]int) {
		for most := range all {
			checkRounds(t, impl.RoundAll(p, from, at, most), all[:most+1]...)
		}
		for trips := 1; trips <= impl.TripsMax; trips++ {
			for stop, come := range all[trips] {
				if come > all[trips-1][stop] {
					t.Errorf("with %d trips one comes to %d later, at %d", trips, stop, come)
				}
			}
		}
		checkInts(t, "with all trips", all[impl.TripsMax], impl.PlanAll(p, from, at)...)
	})
}

// P35, P108
func TestParetoJourneysImproveWithEachEntry(t *testing.T) {
	eachRounds(t, func(t *testing.T, p impl.Plan, from int, at int, all [][]int) {
		for to, arrival := range impl.PlanAll(p, from, at) {
			best := impl.RoundBest(p, from, to, at)
			if (len(best) > 0) != (arrival != impl.Far) {
				t.Fatalf("to %d at %d the best journeys are %v", to, arrival, best)
			}
			for i, r := range best {
				if all[r.Trips][to] != r.Come || r.Trips > 0 && all[r.Trips-1][to] <= r.Come {
					t.Errorf("to %d, %v does not agree with the rounds %v", to, r, all)
				}
				if i > 0 && (r.Trips <= best[i-1].Trips || r.Come >= best[i-1].Come) {
					t.Errorf("to %d the best journeys are %v", to, best)
				}
				if i == len(best)-1 && r.Come != arrival {
					t.Errorf("to %d the last of the best journeys %v is not at %d", to, best, arrival)
				}
			}
			checkBest(t, best, improvements(all, to)...)
		}
	})
}

// improvements are the numbers of trips with which one comes earlier to a stop than with each smaller number, and when.
func improvements(all [][]int, to int) [][2]int {
	var list [][2]int
	for trips, round := range all {
		fewer := impl.Far
		for _, before := range all[:trips] {
			fewer = min(fewer, before[to])
		}
		if round[to] < fewer {
			list = append(list, [2]int{trips, round[to]})
		}
	}
	return list
}

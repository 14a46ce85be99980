package seed

import (
	"math/rand"
	"slices"
	"testing"

	"stadion/api"
)

// randomRace returns heats of runners with few different times.
func randomRace(r *rand.Rand) [][]Runner {
	l := make([][]Runner, r.Intn(5))
	for _, name := range numbered(r.Intn(15)) {
		if len(l) > 0 {
			i := r.Intn(len(l))
			l[i] = append(l[i], Runner{name, randomTime(r)})
		}
	}
	return l
}

func randomTime(r *rand.Rand) api.Mark {
	if r.Intn(6) == 0 {
		return noMark([]string{"DNS", "DNF", "DQ", "NM"}[r.Intn(4)])
	}
	return timeOf(1 + r.Intn(8))
}

// place returns 1 and the number of those with a lesser time, or 0.
func place(l []Runner, x Runner) int {
	if x.Mark.Kind == "none" {
		return 0
	}
	n := 1
	for _, other := range l {
		if other.Mark.Kind == "time" && other.Mark.Value < x.Mark.Value {
			n++
		}
	}
	return n
}

// advanceBy returns who advances by place and by time, as the chapter says it.
func advanceBy(l [][]Runner, byPlace, byTime int) (placed, timed []string) {
	var rest []Runner
	for _, heat := range l {
		for _, x := range heat {
			if n := place(heat, x); n >= 1 && n <= byPlace {
				placed = append(placed, x.Name)
			} else if n >= 1 {
				rest = append(rest, x)
			}
		}
	}
	for _, x := range rest {
		if place(rest, x) <= byTime {
			timed = append(timed, x.Name)
		}
	}
	return placed, timed
}

func TestRandomAdvance(t *testing.T) {
	r := rand.New(rand.NewSource(6))
	for range 3000 {
		l, byPlace, byTime := randomRace(r), r.Intn(4), r.Intn(5)
		placed, timed, e := Advance(l, byPlace, byTime)
		check(t, "Advance", e, api.OK)
		wantPlaced, wantTimed := advanceBy(l, byPlace, byTime)
		check(t, "by place", placed, wantPlaced)
		check(t, "by time", timed, wantTimed)
		for _, heat := range l {
			places, e := Places(heat)
			check(t, "Places", e, api.OK)
			for i, x := range heat {
				check(t, "a place", places[i], place(heat, x))
			}
		}
	}
}

// TestAdvanceInAnyOrder checks that who advances does not depend on the order of the heats, and of the runners of each.
func TestAdvanceInAnyOrder(t *testing.T) {
	r := rand.New(rand.NewSource(7))
	for range 500 {
		l, byPlace, byTime := randomRace(r), r.Intn(4), r.Intn(5)
		placed, timed, _ := Advance(l, byPlace, byTime)
		r.Shuffle(len(l), func(i, j int) { l[i], l[j] = l[j], l[i] })
		for _, heat := range l {
			r.Shuffle(len(heat), func(i, j int) { heat[i], heat[j] = heat[j], heat[i] })
		}
		placedNow, timedNow, _ := Advance(l, byPlace, byTime)
		for _, names := range [][]string{placed, timed, placedNow, timedNow} {
			slices.Sort(names)
		}
		check(t, "by place", placedNow, placed)
		check(t, "by time", timedNow, timed)
	}
}

// TestLesserTime checks that a lesser time never loses a place, in the heat and among those who advance.
func TestLesserTime(t *testing.T) {
	r := rand.New(rand.NewSource(8))
	better := 0
	for range 1000 {
		l, byPlace, byTime := randomRace(r), r.Intn(4), r.Intn(5)
		for _, heat := range l {
			for i, x := range heat {
				places, _ := Places(heat)
				placed, timed, _ := Advance(l, byPlace, byTime)
				heat[i].Mark = timeOf(1)
				if x.Mark.Kind == "time" {
					heat[i].Mark = timeOf(1 + r.Intn(x.Mark.Value))
				}
				now, _ := Places(heat)
				placedNow, timedNow, _ := Advance(l, byPlace, byTime)
				heat[i] = x
				if places[i] > 0 && now[i] > places[i] {
					t.Errorf("%v: the runner %d falls from %d to %d", heat, i, places[i], now[i])
				}
				if slices.Contains(append(placed, timed...), x.Name) {
					better++
					check(t, "still there", slices.Contains(append(placedNow, timedNow...), x.Name), true)
				}
			}
		}
	}
	if better < 1000 {
		t.Errorf("only %d have advanced", better)
	}
}

func TestRandomChanged(t *testing.T) {
	r := rand.New(rand.NewSource(9))
	found := map[int]int{}
	for range 3000 {
		l, byPlace, byTime := randomRace(r), r.Intn(4), r.Intn(5)
		all := slices.Concat(l...)
		if len(all) == 0 {
			continue
		}
		x := Runner{all[r.Intn(len(all))].Name, randomTime(r)}
		placed, timed := advanceBy(l, byPlace, byTime)
		other := make([][]Runner, len(l))
		for i, heat := range l {
			other[i] = slices.Clone(heat)
			for j := range heat {
				if heat[j].Name == x.Name {
					other[i][j] = x
				}
			}
		}
		placedNow, timedNow := advanceBy(other, byPlace, byTime)
		var want []string
		for _, y := range all {
			if slices.Contains(append(placed, timed...), y.Name) != slices.Contains(append(placedNow, timedNow...), y.Name) {
				want = append(want, y.Name)
			}
		}
		got, e := Changed(l, byPlace, byTime, x)
		check(t, "Changed", e, api.OK)
		check(t, "Changed", got, want)
		found[min(2, len(want))]++
	}
	if len(found) < 3 {
		t.Errorf("as many were changed: %v", found)
	}
}

package seed

import (
	"slices"

	"stadion/api"
)

// Advance returns who advances by place and by time.
func Advance(l [][]Runner, place, time int) ([]string, []string, api.Errno) {
	if e := advanceError(l, place, time); e != api.OK {
		return nil, nil, e
	}
	byPlace, byTime := advancing(l, place, time)
	return namesOf(byPlace), namesOf(byTime), api.OK
}

func advanceError(l [][]Runner, place, time int) api.Errno {
	return first(CheckRunners(l), athletesError(place), athletesError(time))
}

// advancing returns who advances by place, and who by time.
func advancing(l [][]Runner, place, time int) ([]Runner, []Runner) {
	var byPlace, others []Runner
	for _, heat := range l {
		placed, behind := split(heat, place)
		byPlace = append(byPlace, placed...)
		others = append(others, behind...)
	}
	byTime, _ := split(others, time)
	return byPlace, byTime
}

// split returns those of some runners whose place among them is from 1 to the last one, and the others.
func split(l []Runner, last int) ([]Runner, []Runner) {
	var placed, behind []Runner
	for i, place := range placesOf(l) {
		if 1 <= place && place <= last {
			placed = append(placed, l[i])
		} else {
			behind = append(behind, l[i])
		}
	}
	return placed, behind
}

func namesOf(l []Runner) []string {
	var names []string
	for _, x := range l {
		names = append(names, x.Name)
	}
	return names
}

// Changed returns who advances just before or just behind a change of a mark.
func Changed(l [][]Runner, place, time int, r Runner) ([]string, api.Errno) {
	e := first(advanceError(l, place, time), names{}.runnerError(r))
	if e != api.OK {
		return nil, e
	}
	changed, found := replace(l, r)
	if !found {
		return nil, api.ErrUnknown
	}
	before, behind := whoAdvances(l, place, time), whoAdvances(changed, place, time)
	var some []string
	for _, x := range all(l) {
		if before[x.Name] != behind[x.Name] {
			some = append(some, x.Name)
		}
	}
	return some, api.OK
}

// replace returns new heats with another runner in the place of that of the same name, or false if there is none.
func replace(l [][]Runner, r Runner) ([][]Runner, bool) {
	heats := copyOf(l)
	for _, heat := range heats {
		i := slices.IndexFunc(heat, func(x Runner) bool { return x.Name == r.Name })
		if i >= 0 {
			heat[i] = r
			return heats, true
		}
	}
	return nil, false
}

// whoAdvances returns the names of those who advance by place or time.
func whoAdvances(l [][]Runner, place, time int) names {
	byPlace, byTime := advancing(l, place, time)
	advance := names{}
	for _, x := range all([][]Runner{byPlace, byTime}) {
		advance[x.Name] = true
	}
	return advance
}

package track

import (
	"stadion/api"
	"stadion/mark"
)

// part is a part of a lap: a bend or a straight.
type part struct {
	straights int
	bends     int
}

// parts are those of a lap, from the beginning of the first bend on.
var parts = [4]part{{bends: 1}, {straights: 1}, {bends: 1}, {straights: 1}}

// Break returns how much longer the way out of a lane is.
func Break(o Oval, lane int) (api.Span, api.Errno) {
	if e := laneError(o, lane); e != api.OK {
		return api.Span{}, e
	}
	aside := o.runningRadius(lane) - o.runningRadius(1)
	square := o.Straight*o.Straight + aside*aside
	root, e := mark.Root(square)
	if e != api.OK {
		return api.Span{}, e
	}
	above := root
	if root*root != square {
		above++
	}
	return spansOver(1)(root-o.Straight, above-o.Straight), api.OK
}

// Where returns the place on the track of a distance.
func Where(o Oval, lane, distance int) (Spot, api.Errno) {
	if e := first(laneError(o, lane), rangeError(distance, 0, api.MaxNumber)); e != api.OK {
		return Spot{}, e
	}
	run, lap := length{distance}, o.lap(lane)
	var spot Spot
	var begins [2]length // where the part begins, for each bound of pi
bounds:
	for i, pi := range [2]int{lowPi, highPi} {
		spot.Laps = run.with(pi) / lap.with(pi)
		begins[i] = lap.times(spot.Laps)
		for number, p := range parts {
			ends := begins[i].plus(o.run(lane, p.straights, p.bends))
			if run.with(pi) < ends.with(pi) {
				spot.Part = number
				continue bounds
			}
			begins[i] = ends
		}
	}
	// No two parts, of any laps, have as many straights and as many bends before them.
	if begins[0] != begins[1] {
		return Spot{}, api.ErrOpen
	}
	spot.At = run.minus(begins[0]).span()
	return spot, api.OK
}

// Ahead returns how much longer one lane is than another one.
func Ahead(o Oval, a, b, laps int) (api.Span, api.Errno) {
	if e := first(laneError(o, a), laneError(o, b), rangeError(laps, 0, maxLaps)); e != api.OK {
		return api.Span{}, e
	}
	return o.lap(a).minus(o.lap(b)).times(laps).span(), api.OK
}

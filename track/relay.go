package track

import "stadion/api"

const minLegs = 2

// CheckRelay returns the first error of a relay, or OK.
func CheckRelay(r Relay) api.Errno {
	if len(r.Legs) < minLegs || len(r.Legs) > MaxLegs {
		return api.ErrShape
	}
	_, e := firstOf(r.Legs, func(_, leg int) api.Errno { return lengthError(leg) })
	return first(e, lengthError(r.Zone), rangeError(r.Before, 0, r.Zone), zonesError(r))
}

// zonesError returns the error of zones that have a place in common, or one outside the distance.
func zonesError(r Relay) api.Errno {
	last := -1
	for _, zone := range r.zones() {
		if zone[0] <= last {
			return api.ErrRule
		}
		last = zone[1]
	}
	return when(last > r.distance(), api.ErrRule)
}

// Zones returns the zones of a relay.
func Zones(r Relay) ([][2]int, api.Errno) {
	if e := CheckRelay(r); e != api.OK {
		return nil, e
	}
	return r.zones(), api.OK
}

func (r Relay) zones() [][2]int {
	var l [][2]int
	end := 0
	for _, leg := range r.Legs[:len(r.Legs)-1] {
		end += leg
		l = append(l, [2]int{end - r.Before, end - r.Before + r.Zone})
	}
	return l
}

func (r Relay) distance() int {
	sum := 0
	for _, leg := range r.Legs {
		sum += leg
	}
	return sum
}

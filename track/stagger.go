package track

import "stadion/api"

// Stagger returns the span of the stagger of a lane.
func Stagger(o Oval, lane, bends int) (api.Span, api.Errno) {
	if e := first(laneError(o, lane), countError(bends)); e != api.OK {
		return api.Span{}, e
	}
	return o.stagger(lane, bends).span(), api.OK
}

// Marked returns the marked staggers of all lanes.
func Marked(o Oval, bends int) ([]int, api.Errno) {
	if e := first(CheckOval(o), countError(bends)); e != api.OK {
		return nil, e
	}
	var l []int
	for lane := range o.lanes() {
		l = append(l, o.stagger(lane, bends).marked())
	}
	return l, api.OK
}

// Errors returns the errors of the marked staggers.
func Errors(o Oval, bends int) ([]api.Span, api.Errno) {
	if e := first(CheckOval(o), countError(bends)); e != api.OK {
		return nil, e
	}
	var l []api.Span
	for lane := range o.lanes() {
		stagger := o.stagger(lane, bends)
		l = append(l, stagger.minus(length{stagger.marked()}).span())
	}
	return l, api.OK
}

func (o Oval) stagger(lane, bends int) length {
	return o.run(lane, 0, bends).minus(o.run(1, 0, bends))
}

// marked returns the integer part of the lower end of a length's span.
//
// No stagger is below 0, since First is at most Width. Therefore a division will do.
func (x length) marked() int {
	return x.with(lowPi) / denominator
}

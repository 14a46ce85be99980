package office

import (
	"slices"

	"stadion/api"
)

// dispute is a protest of an office, and the entrant against whom it is.
type dispute struct {
	Protest
	entrant
}

// isPending reports whether a protest is open or appealed.
func (p Protest) isPending() bool {
	return p.Stage == stageOpen || p.Stage == stageAppealed
}

func (p Protest) isUpheld() bool {
	return p.Upheld
}

// ofProtest returns the effect of an event that has the number of a protest, and perhaps a verdict.
func ofProtest(do func(d dispute, upheld bool) (Office, api.Errno)) effect {
	return func(o Office, e api.Event) (Office, api.Errno) {
		place := placeOfProtest(o.Protests, e.Values[0])
		if place < 0 {
			return Office{}, api.ErrUnknown
		}
		p, verdict := o.Protests[place], e.Values[1:]
		x, _ := o.entrantOf(p.Race, p.Athlete)
		err := first(
			firstOf(verdict, func(_ []int, n int) api.Errno { return rangeError(n, 0, 1) }),
			when(x.sheet.State == stateVoid, api.ErrState))
		if err != api.OK {
			return Office{}, err
		}
		return do(dispute{p, x}, slices.Contains(verdict, 1))
	}
}

// at returns a dispute whose protest has come to a stage.
func (d dispute) at(stage string, upheld bool) dispute {
	place := placeOfProtest(d.office.Protests, d.Number)
	d.Stage, d.Upheld = stage, upheld
	d.office.Protests = replaced(d.office.Protests, place, d.Protest)
	return d
}

// judged returns the office in which the entrant is struck if the protest is upheld.
func (d dispute) judged() Office {
	if d.Upheld && !d.isStruck() {
		return d.struck()
	}
	return d.office
}

func decide(d dispute, upheld bool) (Office, api.Errno) {
	return d.at(stageDecided, upheld).judged(), when(d.Stage != stageOpen, api.ErrOver)
}

func appeal(d dispute, _ bool) (Office, api.Errno) {
	return d.at(stageAppealed, d.Upheld).office, first(
		when(d.Stage == stageOpen, api.ErrOpen),
		when(d.Stage != stageDecided, api.ErrOver),
		when(d.sheet.State == stateOfficial, api.ErrState))
}

func rule(d dispute, upheld bool) (Office, api.Errno) {
	if d.Stage != stageAppealed {
		return Office{}, api.ErrState
	}
	next := d.at(stageFinal, upheld)
	if d.Upheld && !upheld && next.isStruck() && !next.hasProtest(Protest.isUpheld) {
		return next.reinstated()
	}
	return next.judged(), api.OK
}

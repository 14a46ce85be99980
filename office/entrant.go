package office

import (
	"slices"

	"stadion/api"
)

// sheetOf returns the sheet of a race, or false.
func (o Office) sheetOf(race string) (Sheet, bool) {
	place := placeOfSheet(o.Sheets, race)
	if place < 0 {
		return Sheet{}, false
	}
	return o.Sheets[place], true
}

// withSheet returns an office in which a sheet is in the place of that of its race.
func (o Office) withSheet(s Sheet) Office {
	o.Sheets = replaced(o.Sheets, placeOfSheet(o.Sheets, s.Race), s)
	return o
}

// entrant is an athlete with a result on a sheet of an office.
type entrant struct {
	office Office
	sheet  Sheet
	result api.Result
}

// entrantOf returns an athlete on the sheet of a race, or false.
func (o Office) entrantOf(race, athlete string) (entrant, bool) {
	s, _ := o.sheetOf(race)
	place := placeOfResult(s.Results, athlete)
	if place < 0 {
		return entrant{}, false
	}
	return entrant{o, s, s.Results[place]}, true
}

// placeOfStrike returns the place of the entrant's strike, or -1.
func (x entrant) placeOfStrike() int {
	return placeOfStrike(x.office.Strikes, x.sheet.Race, x.result.Athlete)
}

func (x entrant) isStruck() bool {
	return x.placeOfStrike() >= 0
}

// hasProtest reports whether there is a protest against the entrant of which something is true.
func (x entrant) hasProtest(is func(p Protest) bool) bool {
	return slices.ContainsFunc(x.office.Protests, func(p Protest) bool {
		return p.Race == x.sheet.Race && p.Athlete == x.result.Athlete && is(p)
	})
}

// marked returns the sheet of the next version, on which the entrant has another mark.
func (x entrant) marked(m api.Mark) Sheet {
	s := x.sheet
	place := placeOfResult(s.Results, x.result.Athlete)
	s.Results = replaced(s.Results, place, api.Result{Athlete: x.result.Athlete, Mark: m})
	s.Version++
	return s
}

// struck returns the office after an entrant without a strike is struck.
func (x entrant) struck() Office {
	o := x.office.withSheet(x.marked(disqualified()))
	o.Strikes = added(o.Strikes, Strike{x.sheet.Race, x.result.Athlete, x.result.Mark})
	return o
}

// reinstated returns the office after an entrant with a strike is reinstated, or the error of the sheet.
func (x entrant) reinstated() (Office, api.Errno) {
	place := x.placeOfStrike()
	s := x.marked(x.office.Strikes[place].Mark)
	o := x.office.withSheet(s)
	o.Strikes = removed(o.Strikes, place)
	return o, CheckSheet(s)
}

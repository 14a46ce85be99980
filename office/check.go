package office

import (
	"slices"

	"stadion/api"
	"stadion/mark"
)

// The stages of protests.
const (
	stageOpen     = "open"
	stageDecided  = "decided"
	stageAppealed = "appealed"
	stageFinal    = "final"
)

// CheckOffice returns the first error of an office, or OK.
func CheckOffice(o Office) api.Errno {
	if len(o.Sheets) > MaxSheets || len(o.Strikes) > api.MaxEvents || len(o.Protests) > api.MaxEvents {
		return api.ErrMany
	}
	return first(
		firstOf(o.Sheets, newSheetError),
		firstOf(o.Strikes, func(before []Strike, x Strike) api.Errno { return strikeError(o, before, x) }),
		firstOf(o.Protests, func(before []Protest, p Protest) api.Errno { return protestError(o, before, p) }))
}

// newSheetError returns the error of a sheet whose race has to be different from those before it.
func newSheetError(before []Sheet, s Sheet) api.Errno {
	return first(CheckSheet(s), when(placeOfSheet(before, s.Race) >= 0, api.ErrTwice))
}

func strikeError(o Office, before []Strike, x Strike) api.Errno {
	y, known := o.entrantOf(x.Race, x.Athlete)
	return first(
		when(!known, api.ErrUnknown),
		when(placeOfStrike(before, x.Race, x.Athlete) >= 0, api.ErrTwice),
		mark.CheckMark(x.Mark),
		when(y.result.Mark != disqualified(), api.ErrState))
}

func protestError(o Office, before []Protest, p Protest) api.Errno {
	_, known := o.entrantOf(p.Race, p.Athlete)
	return first(
		rangeError(p.Number, 1, api.MaxEvents),
		when(len(before) > 0 && p.Number <= before[len(before)-1].Number, api.ErrOrder),
		when(!known, api.ErrUnknown),
		when(!slices.Contains([]string{stageOpen, stageDecided, stageAppealed, stageFinal}, p.Stage), api.ErrKind),
		when(p.Stage == stageOpen && p.Upheld, api.ErrForm))
}

// placeOfSheet returns the place of the sheet of a race, or -1.
func placeOfSheet(l []Sheet, race string) int {
	return slices.IndexFunc(l, func(s Sheet) bool { return s.Race == race })
}

// placeOfStrike returns the place of the strike of an athlete in a race, or -1.
func placeOfStrike(l []Strike, race, athlete string) int {
	return slices.IndexFunc(l, func(x Strike) bool { return x.Race == race && x.Athlete == athlete })
}

// placeOfProtest returns the place of the protest with a number, or -1.
func placeOfProtest(l []Protest, number int) int {
search:
	for i, p := range l {
		switch {
		case p.Number == number:
			return i
		case p.Number > number: // the numbers ascend
			break search
		}
	}
	return -1
}

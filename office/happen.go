package office

import (
	"strings"

	"stadion/api"
	"stadion/mark"
)

// effect is what an event does to an office, or the error with which it is not accepted.
type effect func(o Office, e api.Event) (Office, api.Errno)

// counting returns what an event that counts does to a history.
func counting(do effect) func(h *history, e api.Event) api.Errno {
	return func(h *history, e api.Event) api.Errno {
		next, err := do(h.office(), e)
		if err == api.OK {
			h.offices = append(h.offices, next)
		}
		return err
	}
}

// undo takes away what the last event that counts has done.
func undo(h *history, _ api.Event) api.Errno {
	if len(h.offices) == 0 {
		return api.ErrEmpty
	}
	h.offices = h.offices[:len(h.offices)-1]
	return api.OK
}

func publish(o Office, e api.Event) (Office, api.Errno) {
	_, twice := o.sheetOf(e.Names[0])
	results, err := readResults(e.Text)
	s := Sheet{e.Names[0], 1, stateProvisional, results}
	err = first(
		when(twice, api.ErrTwice),
		err,
		CheckSheet(s),
		when(len(o.Sheets) == MaxSheets, api.ErrMany))
	o.Sheets = added(o.Sheets, s)
	return o, err
}

// readResults reads the text of a sheet.
func readResults(text string) ([]api.Result, api.Errno) {
	words := strings.Split(text, " ")
	e := firstOf(words, func(_ []string, word string) api.Errno {
		athlete, _, found := strings.Cut(word, "=")
		return when(athlete == "" || !found, api.ErrSyntax)
	})
	if e != api.OK {
		return nil, e
	}
	var results []api.Result
	for _, word := range words {
		athlete, text, _ := strings.Cut(word, "=")
		m, e := mark.Parse(text)
		if e != api.OK {
			return nil, e
		}
		results = append(results, api.Result{Athlete: athlete, Mark: m})
	}
	return results, api.OK
}

// ofEntrant returns the effect of an event that names a race and an athlete.
func ofEntrant(do func(x entrant, e api.Event) (Office, api.Errno)) effect {
	return func(o Office, e api.Event) (Office, api.Errno) {
		x, known := o.entrantOf(e.Names[0], e.Names[1])
		if !known {
			return Office{}, api.ErrUnknown
		}
		return do(x, e)
	}
}

func correct(x entrant, e api.Event) (Office, api.Errno) {
	m, unread := mark.Parse(e.Text)
	s := x.marked(m)
	return x.office.withSheet(s), first(
		when(x.sheet.State == stateVoid || x.isStruck(), api.ErrState),
		unread,
		when(x.result.Mark == m, api.ErrTwice),
		CheckSheet(s))
}

func strike(x entrant, _ api.Event) (Office, api.Errno) {
	return x.struck(), first(
		when(x.sheet.State == stateVoid, api.ErrState),
		when(x.isStruck(), api.ErrTwice))
}

func reinstate(x entrant, _ api.Event) (Office, api.Errno) {
	e := first(
		when(x.sheet.State == stateVoid, api.ErrState),
		when(!x.isStruck(), api.ErrNone))
	if e != api.OK {
		return Office{}, e
	}
	return x.reinstated()
}

func protest(x entrant, e api.Event) (Office, api.Errno) {
	o := x.office
	o.Protests = added(o.Protests, Protest{Number: e.Number, Race: x.sheet.Race, Athlete: x.result.Athlete, Stage: stageOpen})
	return o, first(
		when(x.sheet.State != stateProvisional, api.ErrState),
		when(x.hasProtest(Protest.isPending), api.ErrTwice))
}

// ofSheet returns the effect of an event that names a race.
func ofSheet(do func(o Office, s Sheet) (Office, api.Errno)) effect {
	return func(o Office, e api.Event) (Office, api.Errno) {
		s, known := o.sheetOf(e.Names[0])
		if !known {
			return Office{}, api.ErrUnknown
		}
		s.Version++
		return do(o, s)
	}
}

func confirm(o Office, s Sheet) (Office, api.Errno) {
	e := first(
		when(s.State == stateVoid, api.ErrState),
		when(s.State == stateOfficial, api.ErrTwice),
		firstOf(o.Protests, func(_ []Protest, p Protest) api.Errno {
			return when(p.Race == s.Race && p.isPending(), api.ErrOpen)
		}))
	s.State = stateOfficial
	return o.withSheet(s), e
}

func void(o Office, s Sheet) (Office, api.Errno) {
	e := when(s.State == stateVoid, api.ErrTwice)
	s.State = stateVoid
	return o.withSheet(s), e
}

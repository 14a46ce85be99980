package field

import (
	"stadion/api"
	"stadion/mark"
)

// deed is what an athlete does: a trial, an attempt, or retiring.
type deed interface {
	// inTurn reports whether the athlete has to be next.
	inTurn() bool
}

// trial is a mark, Foul or Pass.
type trial int

// attempt is a letter of a card.
type attempt string

type retirement struct{}

func (trial) inTurn() bool      { return true }
func (attempt) inTurn() bool    { return true }
func (retirement) inTurn() bool { return false }

// kind is a kind of acts: the greatest value of such an act, and what the athlete does.
type kind struct {
	most int
	deed func(value int) deed
}

// same returns a kind of acts without a value.
func same(d deed) kind {
	return kind{deed: func(int) deed { return d }}
}

func kindsOf(heights bool) map[string]kind {
	if heights {
		return map[string]kind{"clear": same(clearance), "fail": same(failure), "pass": same(pass), "retire": same(retirement{})}
	}
	return map[string]kind{"mark": {api.MaxLength, measured}, "foul": same(trial(Foul)), "pass": same(trial(Pass)), "retire": same(retirement{})}
}

func measured(value int) deed {
	m, _ := mark.Round(api.Mark{Kind: kindLength, Value: value}, "centimetres")
	return trial(m.Value)
}

// CheckAct returns the first error of an act in trials, or over heights, or OK.
func CheckAct(a Act, heights bool) api.Errno {
	k, found := kindsOf(heights)[a.Kind]
	return first(nameError(a.Athlete), when(!found, api.ErrKind), rangeError(a.Value, 0, k.most))
}

func actsError(l []Act, heights bool) api.Errno {
	return listError(l, api.MaxEvents, func(_ int, a Act) api.Errno { return CheckAct(a, heights) })
}

// Corrected returns acts with another one in the place of one of them.
func Corrected(l []Act, number int, a Act, heights bool) ([]Act, api.Errno) {
	e := first(actsError(l, heights), CheckAct(a, heights), when(number < 1 || number > len(l), api.ErrUnknown))
	if e != api.OK {
		return nil, e
	}
	return with(l, number-1, a), api.OK
}

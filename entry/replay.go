package entry

import (
	"iter"

	"stadion/api"
)

// Replay returns the state after acts, and the refusals.
func Replay(m Meeting, l []Act) (State, []Refusal, api.Errno) {
	if e := first(CheckMeeting(m), actsError(l)); e != api.OK {
		return State{}, nil, e
	}
	s, refused := replay(m, l)
	return s, refused, api.OK
}

func actsError(l []Act) api.Errno {
	if len(l) > MaxActs {
		return api.ErrMany
	}
	return firstOf(l, func(_ []Act, a Act) api.Errno { return CheckAct(a) })
}

// step is an act of a list: its number, and whether its day is before that of an act before it.
type step struct {
	number int
	act    Act
	early  bool
}

func steps(l []Act) iter.Seq[step] {
	return func(yield func(step) bool) {
		latest := 0
		for i, a := range l {
			if !yield(step{i, a, a.Day < latest}) {
				return
			}
			latest = max(latest, a.Day)
		}
	}
}

func replay(m Meeting, l []Act) (State, []Refusal) {
	var s State
	var refused []Refusal
	for x := range steps(l) {
		if x.early {
			refused = append(refused, Refusal{x.number, api.ErrOrder})
			continue
		}
		next, e := after(m, s, x.act)
		if e != api.OK {
			refused = append(refused, Refusal{x.number, e})
			continue
		}
		s = next
	}
	return s, refused
}

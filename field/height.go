package field

import (
	"slices"
	"strings"

	"stadion/api"
)

// CheckVertical returns the first error of a competition over heights, or OK.
func CheckVertical(v Vertical) api.Errno {
	return first(
		athletesError(v.Athletes),
		when(len(v.Heights) == 0, api.ErrEmpty),
		listError(v.Heights, api.MaxHeights, func(place int, height int) api.Errno {
			return first(tensError(height, api.MaxLength), when(place > 0 && height <= v.Heights[place-1], api.ErrOrder))
		}),
		tensError(v.Step, 1000))
}

// verticalState is a competition over heights after some acts.
type verticalState struct {
	record
	vertical Vertical
	cards    []Card
}

// turn is how a competition over heights goes on: who may do something, who of them is next, with which text of a card (that of a height, or of a round of the jump-off), and at which height.
type turn struct {
	active  []int
	next    int
	text    int
	height  int
	jumpOff bool
}

// after returns the state of a competition after acts, or the error of both.
func (v Vertical) after(l []Act) (*verticalState, api.Errno) {
	if e := first(CheckVertical(v), actsError(l, true)); e != api.OK {
		return nil, e
	}
	s := &verticalState{record: record{athletes: v.Athletes}, vertical: v}
	s.cards = each(v.Athletes, func(name string) Card { return Card{Athlete: name} })
	s.replay(l, true, s.do)
	return s, api.OK
}

// do lets an athlete do something, and returns the rule that refuses it, or 0.
func (s *verticalState) do(athlete int, d deed) int {
	t := s.turn()
	switch {
	case t.next == nobody || !slices.Contains(t.active, athlete):
		return ruleState
	case d.inTurn() && athlete != t.next:
		return ruleTurn
	}
	card := s.cards[athlete]
	switch d := d.(type) {
	case attempt:
		if t.jumpOff && d == pass {
			return rulePass
		}
		if t.jumpOff {
			card.Off = lettered(card.Off, t.text, d)
		} else {
			card.Heights = lettered(card.Heights, t.text, d)
		}
	case retirement:
		card.Retired = true
	}
	s.cards = with(s.cards, athlete, card)
	return 0
}

// lettered returns texts with one more letter in one of them, which may be a new one.
func lettered(texts []string, place int, letter attempt) []string {
	if place == len(texts) {
		return grown(texts, string(letter))
	}
	return with(texts, place, texts[place]+string(letter))
}

func (s *verticalState) turn() turn {
	t := s.mainTurn()
	if t.next == nobody {
		return s.jumpOffTurn()
	}
	return t
}

// mainTurn returns how the main competition goes on.
func (s *verticalState) mainTurn() turn {
	t := turn{next: nobody, active: those(s.everyone(), func(i int) bool { return !s.cards[i].Retired && inARow(s.cards[i].Heights) < mostFailures })}
search:
	for place, height := range s.vertical.Heights {
		for failed := range mostFailures {
			for i := range due(t.active, func(i int) bool { return hasFailed(s.cards[i], place, failed) }) {
				t.next, t.text, t.height = i, place, height
				break search
			}
		}
	}
	return t
}

// hasFailed reports whether an athlete has failed so often at a height, and done nothing else there.
func hasFailed(c Card, place, failed int) bool {
	text := ""
	if place < len(c.Heights) {
		text = c.Heights[place]
	}
	return text == strings.Repeat(string(failure), failed)
}

// jumpOffTurn returns how the jump-off goes on, after the main competition.
//
// Who takes part follows from the cards alone: those who have retired do not, at whatever time, but what they have cleared before counts.
func (s *verticalState) jumpOffTurn() turn {
	best := bestTally(s.cards)
	active := those(s.everyone(), func(i int) bool { return isFirst(s.cards[i], best) && !s.cards[i].Retired })
	for round := 0; round < api.MaxHeights && len(active) > 1; round++ {
		for i := range due(active, func(i int) bool { return len(s.cards[i].Off) == round }) {
			heights := offHeights(s.vertical, s.cards, round+1)
			return turn{active: active, next: i, text: round, height: heights[round], jumpOff: true}
		}
		if anyCleared(s.cards, round) {
			active = those(active, func(i int) bool { return hasCleared(s.cards[i], round) })
		}
	}
	return turn{next: nobody}
}

// Jump returns the cards after acts, and the acts that are set aside.
func Jump(v Vertical, l []Act) ([]Card, []Refusal, api.Errno) {
	s, e := v.after(l)
	if e != api.OK {
		return nil, nil, e
	}
	return s.cards, s.aside, api.OK
}

// Due returns the athlete who is next, and the height.
func Due(v Vertical, l []Act) (string, int, api.Errno) {
	s, e := v.after(l)
	if e != api.OK {
		return "", 0, e
	}
	t := s.turn()
	if t.next == nobody {
		return "", 0, api.ErrOver
	}
	return s.athletes[t.next], t.height, api.OK
}

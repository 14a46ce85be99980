package field

import (
	"slices"

	"stadion/api"
)

// CheckContest returns the first error of a competition in trials, or OK.
func CheckContest(c Contest) api.Errno {
	return first(
		athletesError(c.Athletes),
		rangeError(c.Trials, 1, api.MaxTrials),
		rangeError(c.More, 0, api.MaxTrials-c.Trials),
		finalistsError(c))
}

func finalistsError(c Contest) api.Errno {
	if c.More == 0 {
		return when(c.Finalists != 0, api.ErrRange)
	}
	return rangeError(c.Finalists, 1, MaxField)
}

// contestState is a competition in trials after some acts.
type contestState struct {
	record
	contest Contest
	rows    []Row
}

// after returns the state of a competition after acts, or the error of both.
func (c Contest) after(l []Act) (*contestState, api.Errno) {
	if e := first(CheckContest(c), actsError(l, false)); e != api.OK {
		return nil, e
	}
	s := &contestState{record: record{athletes: c.Athletes}, contest: c}
	s.rows = each(c.Athletes, func(name string) Row { return Row{Athlete: name} })
	s.replay(l, false, s.do)
	return s, api.OK
}

// do lets an athlete do something, and returns the rule that refuses it, or 0.
func (s *contestState) do(athlete int, d deed) int {
	next := s.next()
	row := s.rows[athlete]
	switch {
	case next == nobody || row.Retired:
		return ruleState
	case d.inTurn() && athlete != next:
		return ruleTurn
	}
	switch d := d.(type) {
	case trial:
		row.Trials = grown(row.Trials, int(d))
	case retirement:
		row.Retired = true
	}
	s.rows = with(s.rows, athlete, row)
	return 0
}

// next returns the athlete whose trial is next.
func (s *contestState) next() int {
	next := nobody
search:
	for trials := range s.contest.Trials + s.contest.More {
		order := s.everyone()
		if trials >= s.contest.Trials {
			order = finalists(s.contest, s.rows)
		}
		for i := range due(order, func(i int) bool { return !s.rows[i].Retired && len(s.rows[i].Trials) == trials }) {
			next = i
			break search
		}
	}
	return next
}

// finalists returns the numbers of the athletes who have more trials, in their order.
func finalists(c Contest, l []Row) []int {
	early := each(l, func(r Row) Row {
		return Row{Athlete: r.Athlete, Trials: r.Trials[:min(c.Trials, len(r.Trials))]}
	})
	ranks := rowRanks(early)
	var order []int
	for i, rank := range ranks {
		if rank >= 1 && rank <= c.Finalists {
			order = append(order, i)
		}
	}
	slices.SortStableFunc(order, func(a, b int) int { return ranks[b] - ranks[a] })
	return order
}

// Compete returns the rows after acts, and the acts that are set aside.
func Compete(c Contest, l []Act) ([]Row, []Refusal, api.Errno) {
	s, e := c.after(l)
	if e != api.OK {
		return nil, nil, e
	}
	return s.rows, s.aside, api.OK
}

// Next returns the athlete whose trial is next, and its number.
func Next(c Contest, l []Act) (string, int, api.Errno) {
	s, e := c.after(l)
	if e != api.OK {
		return "", 0, e
	}
	next := s.next()
	if next == nobody {
		return "", 0, api.ErrOver
	}
	return s.athletes[next], len(s.rows[next].Trials) + 1, api.OK
}

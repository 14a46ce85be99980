package entry

import (
	"slices"

	"stadion/api"
)

// Next returns the state after a legal act.
func Next(m Meeting, s State, a Act) (State, api.Errno) {
	if e := first(CheckState(m, s), CheckAct(a)); e != api.OK {
		return State{}, e
	}
	return after(m, s, a)
}

// after returns the state after an act, or the error with which it is not legal, or too much.
func after(m Meeting, s State, a Act) (State, api.Errno) {
	k := kinds()[a.Kind]
	if e := k.legal(m, s, a); e != api.OK {
		return State{}, e
	}
	next := copyOf(s)
	k.change(&next, a)
	if e := sizeError(next); e != api.OK {
		return State{}, e
	}
	return next, api.OK
}

// copyOf returns a state that shares no memory with another one.
func copyOf(s State) State {
	return State{
		Clubs:    slices.Clone(s.Clubs),
		Athletes: slices.Clone(s.Athletes),
		Licences: slices.Clone(s.Licences),
		Entries:  slices.Clone(s.Entries),
		Teams:    copyTeams(s.Teams),
	}
}

func copyTeams(l []Team) []Team {
	teams := slices.Clone(l)
	for i, t := range teams {
		teams[i].Runners = slices.Clone(t.Runners)
	}
	return teams
}

// with returns a list that has one more element at its end.
func with[T any](l []T, x T) []T {
	longer := make([]T, len(l)+1)
	copy(longer, l)
	longer[len(l)] = x
	return longer
}

func addClub(s *State, a Act) {
	s.Clubs = with(s.Clubs, a.Club)
}

func addAthlete(s *State, a Act) {
	s.Athletes = with(s.Athletes, api.Athlete{Name: a.Athlete, Club: a.Club, Born: a.From, Category: a.Category})
}

func addLicence(s *State, a Act) {
	s.Licences = with(s.Licences, Licence{a.Athlete, a.From, a.To})
}

func transfer(s *State, a Act) {
	for i, x := range s.Athletes {
		if x.Name == a.Athlete {
			s.Athletes[i].Club = a.Club
		}
	}
}

func addEntry(s *State, a Act) {
	s.Entries = with(s.Entries, Entry{Athlete: a.Athlete, Contest: a.Contest, Mark: a.Mark, Day: a.Day})
}

func withdraw(s *State, a Act) {
	i := placeOfEntry(s.Entries, a.Athlete, a.Contest)
	s.Entries = slices.Delete(s.Entries, i, i+1)
}

func checkIn(s *State, a Act) {
	s.Entries[placeOfEntry(s.Entries, a.Athlete, a.Contest)].Checked = true
}

func setTeam(s *State, a Act) {
	t := Team{a.Club, a.Contest, slices.Clone(a.Names)}
	if i := placeOfTeam(s.Teams, a.Club, a.Contest); i >= 0 {
		s.Teams[i] = t
		return
	}
	s.Teams = with(s.Teams, t)
}

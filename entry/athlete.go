package entry

import "stadion/api"

// Age returns the age of an athlete.
func Age(a api.Athlete, day int) (int, api.Errno) {
	e := first(nameError(a.Name), dayError(a.Born), dayError(day), when(a.Born > day, api.ErrOrder))
	if e != api.OK {
		return 0, e
	}
	return (day - a.Born) / Year, api.OK
}

// Licensed tells whether a licence holds.
func Licensed(l []Licence, athlete string, day int) (bool, api.Errno) {
	if len(l) > MaxActs {
		return false, api.ErrMany
	}
	licences := firstOf(l, func(_ []Licence, x Licence) api.Errno {
		return first(nameError(x.Athlete), periodError(x.From, x.To))
	})
	if e := first(licences, nameError(athlete), dayError(day)); e != api.OK {
		return false, e
	}
	return isLicensed(l, athlete, day), api.OK
}

func isLicensed(l []Licence, athlete string, day int) bool {
	holds := false
search:
	for _, x := range l {
		switch {
		case x.Athlete != athlete:
			continue
		case x.From <= day && day <= x.To:
			holds = true
			break search
		}
	}
	return holds
}

// Eligible returns OK for an athlete who is eligible.
func Eligible(m Meeting, s State, athlete, contest string) api.Errno {
	if e := CheckState(m, s); e != api.OK {
		return e
	}
	a, known := findAthlete(s.Athletes, athlete)
	c, held := findContest(m.Contests, contest)
	return first(when(!known || !held, api.ErrUnknown), eligibility(m, s, a, c))
}

// eligibility returns the first error with which an athlete is not eligible for a contest, or OK.
func eligibility(m Meeting, s State, a api.Athlete, c Contest) api.Errno {
	age, e := Age(a, m.Day)
	return first(
		when(c.Category != "" && c.Category != a.Category, api.ErrRule),
		when(e != api.OK || age < c.Least || age > c.Most, api.ErrRule),
		when(!isLicensed(s.Licences, a.Name, m.Day), api.ErrNone),
	)
}

func findAthlete(l []api.Athlete, name string) (api.Athlete, bool) {
	return find(l, func(a api.Athlete) bool { return a.Name == name })
}

package entry

import (
	"math"
	"strings"
	"testing"

	"stadion/api"
)

func TestAge(t *testing.T) {
	for _, x := range []struct {
		born, day, want int
		e               api.Errno
	}{
		{1000, 8000, 19, api.OK}, {0, 0, 0, api.OK}, {0, 364, 0, api.OK}, {0, 365, 1, api.OK}, {0, 729, 1, api.OK}, {0, 730, 2, api.OK}, {0, 99999, 273, api.OK},
		{7635, 8000, 1, api.OK}, {7636, 8000, 0, api.OK}, {8000, 8000, 0, api.OK}, {99999, 99999, 0, api.OK},
		{8001, 8000, 0, api.ErrOrder}, {1, 0, 0, api.ErrOrder},
		{-1, 8000, 0, api.ErrRange}, {100000, 8000, 0, api.ErrRange}, {0, -1, 0, api.ErrRange}, {0, 100000, 0, api.ErrRange}, {100000, 100001, 0, api.ErrRange}, {8001, -1, 0, api.ErrRange},
		{math.MinInt, math.MaxInt, 0, api.ErrRange}, {math.MaxInt, math.MinInt, 0, api.ErrRange},
	} {
		n, e := Age(api.Athlete{Name: "ann", Born: x.born}, x.day)
		check(t, "Age", []any{x.born, x.day, n, e}, []any{x.born, x.day, x.want, x.e})
	}
	for _, name := range []string{"", "1", "a b", strings.Repeat("a", 25)} {
		n, e := Age(api.Athlete{Name: name, Club: "A", Born: -1, Category: "women"}, -1)
		check(t, "Age of "+name, []any{n, e}, []any{0, api.ErrName})
	}
	n, e := Age(api.Athlete{Name: "ann", Club: "-", Born: 1, Category: "-"}, 366)
	check(t, "Age with a wrong club and category", []any{n, e}, []any{1, api.OK})
}

func TestLicensed(t *testing.T) {
	l := []Licence{{"ann", 10, 20}, {"bea", 30, 40}, {"ann", 50, 50}, {"ann", 15, 25}}
	for _, x := range []struct {
		athlete string
		day     int
		want    bool
		e       api.Errno
	}{
		{"ann", 9, false, api.OK}, {"ann", 10, true, api.OK}, {"ann", 20, true, api.OK}, {"ann", 25, true, api.OK}, {"ann", 26, false, api.OK},
		{"ann", 35, false, api.OK}, {"ann", 49, false, api.OK}, {"ann", 50, true, api.OK}, {"ann", 51, false, api.OK},
		{"bea", 15, false, api.OK}, {"bea", 35, true, api.OK}, {"cat", 15, false, api.OK}, {"Ann", 15, false, api.OK},
		{"ann", 0, false, api.OK}, {"ann", 99999, false, api.OK},
		{"", 15, false, api.ErrName}, {"1", -1, false, api.ErrName}, {"ann", -1, false, api.ErrRange}, {"ann", 100000, false, api.ErrRange},
	} {
		b, e := Licensed(l, x.athlete, x.day)
		check(t, "Licensed", []any{x.athlete, x.day, b, e}, []any{x.athlete, x.day, x.want, x.e})
	}
	b, e := Licensed(nil, "ann", 15)
	check(t, "Licensed without licences", []any{b, e}, []any{false, api.OK})
	b, e = Licensed(append(repeated(Licence{"bea", 0, 0}, 255), Licence{"ann", 0, 99999}), "ann", 15)
	check(t, "Licensed by the last one of 256", []any{b, e}, []any{true, api.OK})
}

func TestErrorsOfLicensedInOrder(t *testing.T) {
	type call struct {
		l       []Licence
		athlete string
		day     int
	}
	l := make([]Licence, 257)
	l[0] = Licence{"ann", 0, 10}
	climb(t, "Licensed", call{l, "", -1},
		func(x call) api.Errno {
			holds, e := Licensed(x.l, x.athlete, x.day)
			check(t, "Licensed beside an error", holds, e == api.OK)
			return e
		},
		rung[call]{api.ErrMany, func(x *call) { x.l = []Licence{l[0], {"", -1, -2}, {}} }},
		rung[call]{api.ErrName, func(x *call) { x.l[1].Athlete = "ann" }},
		rung[call]{api.ErrRange, func(x *call) { x.l[1].From = 1 }},
		rung[call]{api.ErrRange, func(x *call) { x.l[1].To = 0 }},
		rung[call]{api.ErrOrder, func(x *call) { x.l[1].To = 1 }},
		rung[call]{api.ErrName, func(x *call) { x.l = x.l[:2] }},
		rung[call]{api.ErrName, func(x *call) { x.athlete = "ann" }},
		rung[call]{api.ErrRange, func(x *call) { x.day = 1 }},
	)
	for _, x := range []Licence{{"ann", 100000, 100000}, {"ann", 0, 100000}, {"ann", math.MinInt, 0}} {
		_, e := Licensed([]Licence{x}, "ann", 1)
		check(t, "Licensed out of range", e, api.ErrRange)
	}
}

func TestEligible(t *testing.T) {
	for _, x := range []struct {
		what   string
		change func(m *Meeting, s *State)
		want   api.Errno
	}{
		{"the example", func(m *Meeting, s *State) {}, api.OK},
		{"the category", func(m *Meeting, s *State) { m.Contests[1].Category = "women" }, api.OK},
		{"another category", func(m *Meeting, s *State) { m.Contests[1].Category = "men" }, api.ErrRule},
		{"another category of another contest", func(m *Meeting, s *State) { m.Contests[0].Category = "men" }, api.OK},
		{"the least age", func(m *Meeting, s *State) { m.Contests[1].Least = 19 }, api.OK},
		{"too young", func(m *Meeting, s *State) { m.Contests[1].Least = 20 }, api.ErrRule},
		{"the greatest age", func(m *Meeting, s *State) { m.Contests[1].Most = 19 }, api.OK},
		{"too old", func(m *Meeting, s *State) { m.Contests[1].Most = 18 }, api.ErrRule},
		{"old enough on the day", func(m *Meeting, s *State) { m.Contests[1].Least = 20; s.Athletes[0].Born = 700 }, api.OK},
		{"old enough a day after it", func(m *Meeting, s *State) { m.Contests[1].Least = 20; s.Athletes[0].Born = 701 }, api.ErrRule},
		{"born on the day", func(m *Meeting, s *State) { m.Contests[1].Least = 0; s.Athletes[0].Born = 8000 }, api.OK},
		{"born after the day", func(m *Meeting, s *State) { m.Contests[1].Least = 0; s.Athletes[0].Born = 8001 }, api.ErrRule},
		{"no licence", func(m *Meeting, s *State) { s.Licences = s.Licences[1:] }, api.ErrNone},
		{"a licence from the day on", func(m *Meeting, s *State) { s.Licences[0].From = 8000 }, api.OK},
		{"a licence after the day", func(m *Meeting, s *State) { s.Licences[0].From = 8001 }, api.ErrNone},
		{"a licence to the day", func(m *Meeting, s *State) { s.Licences[0].To = 8000 }, api.OK},
		{"a licence before the day", func(m *Meeting, s *State) { s.Licences[0].To = 7999 }, api.ErrNone},
		{"a second licence", func(m *Meeting, s *State) { s.Licences[0].To = 7999; s.Licences[2].Athlete = "ann" }, api.OK},
		{"another age without a licence", func(m *Meeting, s *State) { m.Contests[1].Least = 20; s.Licences = nil }, api.ErrRule},
		{"another category without a licence", func(m *Meeting, s *State) { m.Contests[1].Category = "men"; s.Licences = nil }, api.ErrRule},
		{"as many entries as possible", func(m *Meeting, s *State) { m.Limit = 0 }, api.OK},
	} {
		m, s := exampleMeeting(), exampleState(t)
		x.change(&m, &s)
		check(t, x.what, Eligible(m, s, "ann", "jump"), x.want)
	}
	m, s := exampleMeeting(), exampleState(t)
	check(t, "Eligible for the contest that is entered", Eligible(m, s, "ann", "sprint"), api.OK)
	check(t, "Eligible for a relay", Eligible(m, s, "ann", "relay"), api.OK)
	check(t, "Eligible of nobody", Eligible(m, s, "cat", "jump"), api.ErrUnknown)
	check(t, "Eligible for no contest", Eligible(m, s, "ann", "throw"), api.ErrUnknown)
	check(t, "Eligible of no names", Eligible(m, s, "", ""), api.ErrUnknown)
	checkOffice(t, "Eligible", func(m Meeting, s State) (any, api.Errno) { return nil, Eligible(m, s, "", "") })
}

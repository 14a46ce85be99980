package timetable

import (
	"testing"

	"stadion/api"
)

// four is a plan with conditions of all kinds.
func four() Plan {
	return Plan{
		Rounds: []Round{
			{"a", 10, []string{"track", "pit"}, []string{"max", "eve"}, []string{"ann"}, 0, 100},
			{"b", 20, []string{"hall"}, []string{"eve"}, []string{"bea", "max"}, 5, 100},
			{"c", 30, []string{"pit", "track"}, []string{"max", "joe"}, []string{"bea", "ann"}, 0, 100},
			{"d", 10, nil, []string{"joe"}, nil, 0, 40},
		},
		Orders: []Order{{3, 2, 4}, {1, 0, 0}, {3, 2, 4}, {3, 2, 6}},
		Rest:   7,
	}
}

func TestConditions(t *testing.T) {
	l, e := Conditions(four())
	checkBoth(t, "conditions of all kinds", l, e, []Condition{
		{"window", 0, 0}, {"window", 1, 1}, {"window", 2, 2}, {"window", 3, 3},
		{"order", 3, 2}, {"order", 1, 0}, {"order", 3, 2}, {"order", 3, 2},
		{"official", 0, 1},
		{"area", 0, 2}, {"official", 0, 2}, {"athlete", 0, 2},
		{"athlete", 1, 2},
		{"official", 2, 3},
	}, api.OK)
	l, e = Conditions(Plan{Rest: 9})
	checkBoth(t, "no conditions", l, e, []Condition{}, api.OK)
	l, e = Conditions(Plan{Rounds: []Round{{"a", 1, []string{"x"}, []string{"y"}, []string{"z"}, 0, 0}, {"b", 1, []string{"y"}, []string{"z"}, []string{"x"}, 0, 0}}})
	checkBoth(t, "names of different kinds", l, e, []Condition{{"window", 0, 0}, {"window", 1, 1}}, api.OK)

	everyone := repeated(160, named)
	greatest := Plan{Rounds: repeated(24, func(i int) Round { return Round{named(i), 1, everyone, everyone, everyone, 0, 9} })}
	l, e = Conditions(greatest)
	check(t, "the number of most conditions", len(l), 24+3*276)
	check(t, "the error of most conditions", e, api.OK)
	check(t, "the last condition", l[len(l)-1], Condition{"athlete", 22, 23})
}

func TestCheckTable(t *testing.T) {
	for _, x := range []struct {
		what  string
		p     Plan
		table []int
		n     int
		e     api.Errno
	}{
		{"nothing", Plan{}, nil, 0, api.OK},
		{"all", four(), []int{40, 5, 57, 30}, 14, api.OK},
		{"rounds that do not share anything at once", four(), []int{25, 5, 46, 5}, 14, api.OK},
		{"the first minute of a window", four(), []int{25, 5, 46, 30}, 14, api.OK},
		{"a minute before", four(), []int{25, 4, 46, 30}, 1, api.ErrConflict},
		{"the last minute of a window", four(), []int{25, 5, 70, 30}, 14, api.OK},
		{"a minute behind", four(), []int{25, 5, 71, 30}, 2, api.ErrConflict},
		{"a round that ends at once with an order", four(), []int{25, 5, 46, 30}, 14, api.OK},
		{"a minute too early for an order", four(), []int{24, 5, 46, 30}, 5, api.ErrConflict},
		{"too early for the last order alone", four(), []int{26, 5, 45, 30}, 7, api.ErrConflict},
		{"too early for all orders", four(), []int{26, 5, 43, 30}, 4, api.ErrConflict},
		{"an area a minute too early", four(), []int{51, 5, 60, 30}, 9, api.ErrConflict},
		{"an athlete a minute too early", four(), []int{54, 5, 70, 30}, 11, api.ErrConflict},
		{"an athlete with just the rest", four(), []int{53, 5, 70, 30}, 14, api.OK},
		{"an official before", Plan{Rounds: four().Rounds[:2]}, []int{5, 15}, 3, api.OK},
		{"an official behind", Plan{Rounds: four().Rounds[:2]}, []int{25, 5}, 3, api.OK},
		{"officials at once", Plan{Rounds: four().Rounds[:2]}, []int{14, 14}, 2, api.ErrConflict},
		{"officials a minute too early", Plan{Rounds: four().Rounds[:2]}, []int{6, 15}, 2, api.ErrConflict},
		{"officials a minute too late", Plan{Rounds: four().Rounds[:2]}, []int{24, 5}, 2, api.ErrConflict},
		{"an athlete without a rest", Plan{Rounds: four().Rounds[1:3]}, []int{35, 5}, 3, api.OK},
		{"an athlete without the whole rest", Plan{Rounds: four().Rounds[1:3], Rest: 1}, []int{35, 5}, 2, api.ErrConflict},
		{"an athlete with the whole rest", Plan{Rounds: four().Rounds[1:3], Rest: 1}, []int{36, 5}, 3, api.OK},
		{"the greatest numbers", sample(), []int{999999999, 999999999, 999999999}, 0, api.ErrConflict},
		{"the first one of many", sample(), []int{0, 0, 0}, 3, api.ErrConflict},
	} {
		n, e := CheckTable(x.p, x.table)
		check(t, x.what, n, x.n)
		check(t, x.what+", the error", e, x.e)
	}
}

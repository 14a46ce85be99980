package track

import (
	"fmt"
	"math"
	"math/rand"
	"testing"

	"stadion/api"
)

// anything fills in arguments of any form, about every thirtieth value of which is a wrong one.
type anything struct{ *rand.Rand }

func pick[T any](r anything, l ...T) T { return l[r.Intn(len(l))] }

func (r anything) number(l ...int) int {
	if r.Intn(30) == 0 {
		return pick(r, math.MinInt, -1, 0, 17, 1000000, 1000000000, math.MaxInt)
	}
	return pick(r, l...)
}

func (r anything) name() string {
	if r.Intn(30) == 0 {
		return pick(r, "", " ", "1a", "\xff", "é", "a-b")
	}
	return pick(r, "a", "b", "c", "d", "e")
}

func (r anything) names(n int) []string {
	var l []string
	for range r.number(n) % 20 {
		l = append(l, r.name())
	}
	return l
}

func (r anything) teams() [][]string {
	var l [][]string
	for range r.Intn(4) {
		l = append(l, r.names(2))
	}
	return l
}

func (r anything) oval() Oval {
	return Oval{r.number(1, 84390), r.number(1, 36500), r.number(300, 1220), r.number(0, 300), r.number(0, 200), r.number(1, 8)}
}

func (r anything) relay() Relay {
	x := Relay{nil, r.number(3, 4), r.number(0, 2)}
	for range 2 {
		x.Legs = append(x.Legs, r.number(10, 12))
	}
	if r.Intn(10) == 0 {
		x.Legs = x.Legs[:r.Intn(2)]
	}
	return x
}

func (r anything) run() []Exchange {
	var l []Exchange
	for range r.number(1, 1, 1, 2) % 5 {
		l = append(l, Exchange{r.number(10, 12), r.number(3, 5)})
	}
	return l
}

// TestAnyArguments checks that no function panics or changes its arguments, and that nothing stands beside an error.
func TestAnyArguments(t *testing.T) {
	r := anything{rand.New(rand.NewSource(15))}
	fine := map[string]int{}
	for range 5000 {
		o, x, l, teams, reserves := r.oval(), r.relay(), r.run(), r.teams(), r.names(2)
		h := Hurdles{r.number(3), r.number(2), r.number(1), r.number(1, 2)}
		lane, other, few, distance, finish := r.number(1, 2), r.number(1), r.number(0, 1, 16), r.number(4, 6, 70000), r.number(7, 9)
		given := fmt.Sprint(x, l, teams, reserves)
		for name, f := range map[string]func() (any, api.Errno){
			"CheckOval":    func() (any, api.Errno) { return nil, CheckOval(o) },
			"Radius":       func() (any, api.Errno) { return Radius(o, lane) },
			"Lap":          func() (any, api.Errno) { return Lap(o, lane) },
			"Run":          func() (any, api.Errno) { return Run(o, lane, few, other) },
			"Stagger":      func() (any, api.Errno) { return Stagger(o, lane, few) },
			"Marked":       func() (any, api.Errno) { return Marked(o, few) },
			"Errors":       func() (any, api.Errno) { return Errors(o, few) },
			"Break":        func() (any, api.Errno) { return Break(o, lane) },
			"Where":        func() (any, api.Errno) { return Where(o, lane, distance) },
			"Ahead":        func() (any, api.Errno) { return Ahead(o, lane, other, few) },
			"CheckHurdles": func() (any, api.Errno) { return nil, CheckHurdles(h, distance) },
			"Places":       func() (any, api.Errno) { return Places(h, distance) },
			"CheckRelay":   func() (any, api.Errno) { return nil, CheckRelay(x) },
			"Zones":        func() (any, api.Errno) { return Zones(x) },
			"CheckRun": func() (any, api.Errno) {
				at, e := CheckRun(x, l, finish)
				if at != 0 && (e == api.OK || at >= len(l)) {
					t.Errorf("CheckRun: the exchange %d beside %v", at, e)
				}
				return nil, e
			},
			"Legs":      func() (any, api.Errno) { return Legs(x, l, finish) },
			"Splits":    func() (any, api.Errno) { return Splits(x, l, finish) },
			"CheckTeam": func() (any, api.Errno) { return nil, CheckTeam(x, reserves) },
			"CheckTeams": func() (any, api.Errno) {
				at, e := CheckTeams(x, teams, reserves)
				if at != 0 && (e == api.OK || at >= len(teams)) {
					t.Errorf("CheckTeams: the team %d beside %v", at, e)
				}
				return nil, e
			},
			"Members": func() (any, api.Errno) { return Members(x, teams, reserves) },
		} {
			got, e := f()
			if e == api.OK {
				fine[name]++
			} else {
				checkNothing(t, name, got)
			}
			check(t, name+", the arguments", fmt.Sprint(x, l, teams, reserves), given)
		}
	}
	if len(fine) < 20 {
		t.Errorf("without errors are %v alone", fine)
	}
}

// TestOwnResults checks that results of equal calls share no memory.
func TestOwnResults(t *testing.T) {
	h := Hurdles{1, 1, 1, 2}
	for range 2 {
		marked, _ := Marked(oval(), 1)
		errors, _ := Errors(oval(), 1)
		places, _ := Places(h, 3)
		zones, _ := Zones(relay())
		legs, _ := Legs(relay(), run(), 420000)
		splits, _ := Splits(relay(), run(), 420000)
		members, _ := Members(relay(), teams("a b c d"), nil)
		check(t, "the results", []any{marked[1], errors[0].Low, places[0], zones[0], legs[0], splits[0], members[0]},
			[]any{3518, "0", 1, [2]int{80000, 110000}, 110000, "19/22", "a"})
		marked[1], errors[0].Low, places[0], zones[0], legs[0], splits[0], members[0] = 0, "", 0, [2]int{}, 0, "", ""
	}
}

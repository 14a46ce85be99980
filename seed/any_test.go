package seed

import (
	"math"
	"math/rand"
	"testing"

	"stadion/api"
)

// anything fills in arguments of any form, about every twentieth value of which is a wrong one.
type anything struct{ *rand.Rand }

func pick[T any](r anything, l ...T) T { return l[r.Intn(len(l))] }

func (r anything) text(l ...string) string {
	if r.Intn(30) == 0 {
		return pick(r, "", "-", "0a", "none", "abcdefghijklmnopqrstuvwxy", "\xff", "é")
	}
	return pick(r, l...)
}

func (r anything) number(l ...int) int {
	if r.Intn(20) == 0 {
		return pick(r, math.MinInt, -1, 0, 17, 161, math.MaxInt)
	}
	return pick(r, l...)
}

func (r anything) size(n int) int {
	if r.Intn(40) == 0 {
		return pick(r, 17, 161, 300)
	}
	return r.Intn(n)
}

func (r anything) mark() api.Mark {
	if r.Intn(3) == 0 {
		return api.Mark{Kind: r.text("none"), Value: r.number(0), Reason: r.text("NM", "DNS")}
	}
	return api.Mark{Kind: r.text("time", "time", "time", "length"), Value: r.number(1, 2, 3)}
}

func (r anything) entrants() []Entrant {
	var l []Entrant
	for _, name := range numbered(r.size(6)) {
		l = append(l, Entrant{r.text(name), r.text("A", "B"), r.mark()})
	}
	return l
}

func (r anything) runners() [][]Runner {
	names := numbered(400)
	l := make([][]Runner, r.size(4))
	for i := range l {
		for range r.size(4) {
			l[i] = append(l[i], Runner{r.text(names[r.Intn(400)]), r.mark()})
		}
	}
	return l
}

// lists returns lists with about the numbers from the first to the last one.
func (r anything) lists(from, to int) [][]int {
	l := make([][]int, r.size(4))
	for x := from; x <= to && len(l) > 0; x++ {
		i := r.Intn(len(l))
		l[i] = append(l[i], r.number(x))
	}
	return l
}

func (r anything) rounds() []Round {
	var l []Round
	for range r.size(3) {
		l = append(l, Round{r.number(1, 2), r.number(0, 1), r.number(0, 1)})
	}
	return append(l, Round{r.number(1), r.number(0), 0})
}

// TestAnyArguments checks that no function panics, and that nothing stands beside an error.
func TestAnyArguments(t *testing.T) {
	r := anything{rand.New(rand.NewSource(10))}
	fine := map[string]int{}
	for range 5000 {
		l, heats, key, races := r.entrants(), r.number(1, 2, 3, 16), r.number(1, 2, 2147483646), r.runners()
		athletes, lanes, place, time := r.number(0, 1, 9), r.number(1, 8, 10), r.number(0, 1, 2), r.number(0, 1, 2)
		given, pattern, rounds := r.lists(0, len(l)-1), r.lists(1, 5), r.rounds()
		runner := Runner{r.text("n1", "n2"), r.mark()}
		if len(races) > 0 && len(races[0]) > 0 {
			runner.Name = races[0][0].Name
		}
		for name, f := range map[string]func() (any, api.Errno){
			"CheckEntrants": func() (any, api.Errno) { return nil, CheckEntrants(l) },
			"Order":         func() (any, api.Errno) { return Order(l, key) },
			"Zigzag":        func() (any, api.Errno) { return Zigzag(athletes, heats) },
			"Heats":         func() (any, api.Errno) { return Heats(l, heats, key) },
			"CheckHeats":    func() (any, api.Errno) { return nil, CheckHeats(l, key, given) },
			"Clashes":       func() (any, api.Errno) { return Clashes(l, given) },
			"Least":         func() (any, api.Errno) { return Least(l, heats) },
			"Apart":         func() (any, api.Errno) { return Apart(l, heats, key) },
			"CheckPattern":  func() (any, api.Errno) { return nil, CheckPattern(pattern) },
			"Lanes":         func() (any, api.Errno) { return Lanes(pattern, athletes, key) },
			"CheckRunners":  func() (any, api.Errno) { return nil, CheckRunners(races) },
			"Places":        func() (any, api.Errno) { return Places(append(races, nil)[0]) },
			"Advance":       func() (any, api.Errno) { x, y, e := Advance(races, place, time); return []any{x, y}, e },
			"Changed":       func() (any, api.Errno) { return Changed(races, place, time, runner) },
			"Chart":         func() (any, api.Errno) { return Chart(athletes, lanes) },
			"Numbers":       func() (any, api.Errno) { return Numbers(athletes, lanes, rounds) },
		} {
			got, e := f()
			if e == api.OK {
				fine[name]++
			} else {
				checkNothing(t, name, got)
			}
		}
	}
	if len(fine) < 16 {
		t.Errorf("without errors are %v alone", fine)
	}
}

package score

import (
	"fmt"
	"math"
	"math/rand"
	"strings"
	"testing"

	"stadion/api"
)

// anything fills in arguments of any form, about every thirtieth value of which is a wrong one.
type anything struct{ *rand.Rand }

func pick[T any](r anything, l ...T) T { return l[r.Intn(len(l))] }

func (r anything) number(l ...int) int {
	if r.Intn(40) == 0 {
		return pick(r, math.MinInt, -1, 0, 17, 1000000, 1000000000, math.MaxInt)
	}
	return pick(r, l...)
}

func (r anything) text(l ...string) string {
	if r.Intn(40) == 0 {
		return pick(r, "", " ", "1a", "\xff", "none", strings.Repeat("a", 25))
	}
	return pick(r, l...)
}

func (r anything) name() string { return r.text("a", "b", "c", "d", "e", "f", "g") }

func (r anything) mark(kind string) api.Mark {
	if r.Intn(6) == 0 {
		return api.Mark{Kind: r.text("none"), Value: r.number(0), Reason: r.text("DNS", "DNF", "NM")}
	}
	m := api.Mark{Kind: r.text(kind), Value: r.number(1, 2, 3, 900, 3000)}
	if r.Intn(60) == 0 {
		m.Reason = r.text("DNS")
	}
	return m
}

// size is nearly always a small one.
func (r anything) size(n int) int {
	if r.Intn(80) == 0 {
		return pick(r, 11, 65, 161, 257, 1001)
	}
	return r.Intn(n)
}

func (r anything) scale() Scale {
	s := Scale{Event: r.name(), Kind: r.text("time", "length"), Class: r.text("exact")}
	for i := range 1 + r.size(3) {
		x := Step{r.number(1 + i), r.number(i)}
		if s.Kind == "time" {
			x.Points = r.number(100 - i)
		}
		s.Steps = append(s.Steps, x)
	}
	return s
}

func (r anything) scales() []Scale { return repeated(r.size(4), func(int) Scale { return r.scale() }) }

func (r anything) cards(l []Scale) []Card {
	return repeated(r.size(4), func(int) Card {
		c := Card{Athlete: r.name()}
		for _, s := range l {
			c.Marks = append(c.Marks, r.mark(s.Kind))
		}
		if r.Intn(40) == 0 {
			c.Marks = append(c.Marks, none("DQ"))
		}
		return c
	})
}

func (r anything) lines() []Line {
	return repeated(r.size(4), func(int) Line { return Line{r.name(), r.name(), r.mark("time")} })
}

func (r anything) tariff() []int {
	return repeated(r.size(4), func(i int) int { return r.number(9 - i) })
}

func (r anything) clubs() [][]Club {
	return repeated(r.size(4), func(int) []Club {
		return repeated(r.size(3), func(int) Club { return Club{r.name(), api.Rat(r.text("0", "1/2", "3"))} })
	})
}

func (r anything) performances() []Performance {
	return repeated(r.size(9), func(int) Performance {
		return Performance{r.name(), r.number(1, 2, 3), r.number(5, 6), r.number(0, 1)}
	})
}

func (r anything) claim(kind string) Claim {
	day := r.number(1, 2, 3)
	return Claim{r.name(), api.Mark{Kind: r.text(kind), Value: r.number(1, 2)}, day, r.number(0, 200), r.number(-1, day, day), r.number(-1, -1, day)}
}

// TestAnyArguments checks that no function panics or changes its arguments, and that nothing stands beside an error.
func TestAnyArguments(t *testing.T) {
	r := anything{rand.New(rand.NewSource(30))}
	fine := map[string]int{}
	for range 4000 {
		s, l, lines, tariff, leagues, p := r.scale(), r.scales(), r.lines(), r.tariff(), r.clubs(), r.performances()
		c, one, rule := r.cards(l), Card{"a", []api.Mark{r.mark("time")}}, Rule{r.number(2, 3), r.number(1, 2)}
		x := Terms{r.text("length"), r.number(-1, 20), r.number(0, 2)}
		claims := repeated(r.size(4), func(int) Claim { return r.claim(x.Kind) })
		name, claim, m, points, day, today := r.name(), r.claim(x.Kind), r.mark(s.Kind), r.number(0, 1, 50), r.number(1, 2, 3), r.number(3, 4)
		given := fmt.Sprint(s, l, lines, tariff, leagues, p, c, one, claims)
		for what, f := range map[string]func() (any, api.Errno){
			"CheckScale":        func() (any, api.Errno) { return nil, CheckScale(s) },
			"Points":            func() (any, api.Errno) { return Points(s, m) },
			"Need":              func() (any, api.Errno) { return Need(s, points) },
			"CheckCards":        func() (any, api.Errno) { return nil, CheckCards(l, c) },
			"Series":            func() (any, api.Errno) { return Series(l, one) },
			"Totals":            func() (any, api.Errno) { return Totals(l, c) },
			"Rank":              func() (any, api.Errno) { return Rank(l, c) },
			"CheckLines":        func() (any, api.Errno) { return nil, CheckLines(lines) },
			"Award":             func() (any, api.Errno) { return Award(lines, tariff, points) },
			"League":            func() (any, api.Errno) { return League(leagues) },
			"CheckPerformances": func() (any, api.Errno) { return nil, CheckPerformances(p) },
			"Best": func() (any, api.Errno) {
				n, numbers, e := Best(p, rule, name, day)
				if e != api.OK {
					checkNothing(t, "Best", numbers)
				}
				return n, e
			},
			"Ranking":     func() (any, api.Errno) { return Ranking(p, rule, day) },
			"Expires":     func() (any, api.Errno) { return Expires(p, rule, name, day) },
			"CheckClaims": func() (any, api.Errno) { return nil, CheckClaims(x, claims) },
			"Eligible":    func() (any, api.Errno) { return Eligible(x, claim) },
			"Record":      func() (any, api.Errno) { return Record(x, claims, day, today) },
			"History":     func() (any, api.Errno) { return History(x, claims, today) },
			"Pending":     func() (any, api.Errno) { return Pending(x, claims, today) },
			"Held":        func() (any, api.Errno) { return Held(x, claims, name, today) },
		} {
			got, e := f()
			if e == api.OK {
				fine[what]++
			} else {
				checkNothing(t, what, got)
			}
		}
		check(t, "the arguments", fmt.Sprint(s, l, lines, tariff, leagues, p, c, one, claims), given)
	}
	for what, n := range fine {
		if n < 400 || n > 3900 {
			t.Errorf("%s is without an error %d times", what, n)
		}
	}
	if len(fine) < 20 {
		t.Errorf("without errors are %v alone", fine)
	}
}

// TestOwnResults checks that results of equal calls share no memory.
func TestOwnResults(t *testing.T) {
	l, c := []Scale{dash()}, []Card{{"ann", marks(run(100000))}}
	lines := []Line{one("a", run(1))}
	for range 2 {
		series, _ := Series(l, c[0])
		totals, _ := Totals(l, c)
		ranks, _ := Rank(l, c)
		award, _ := Award(lines, []int{5}, 1)
		league, _ := League([][]Club{{{"a", "5"}}})
		_, best, _ := Best(performances(), rule(), "ann", 40)
		ranking, _ := Ranking(performances(), rule(), 40)
		record, _ := Record(terms(), claims(), 20, 30)
		history, _ := History(terms(), claims(), 30)
		pending, _ := Pending(terms(), claims(), 30)
		check(t, "the results", []any{series[0], totals[0], ranks[0], award[0], league[0], best[0], ranking[0].Rank, record[0], history[1].Claims[0], pending[0]},
			[]any{1000, 1000, 1, Club{"a", "5"}, Club{"a", "5"}, 1, 1, 1, 1, 2})
		series[0], totals[0], ranks[0], award[0], league[0], best[0] = 0, 0, 0, Club{}, Club{}, 0
		ranking[0], record[0], history[1].Claims[0], pending[0] = Standing{}, 0, 0, 0
	}
	two := claims()[:1]
	two = append(two, two[0])
	history, _ := History(terms(), two, 30)
	history[0].Claims[0] = 7
	check(t, "the other claim", history[0].Claims[1], 1)
}

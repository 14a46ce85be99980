package timetable

import (
	"fmt"
	"math"
	"math/rand"
	"strings"
	"testing"

	"stadion/api"
)

// anything fills in arguments of any form, few values of which are wrong ones.
type anything struct{ *rand.Rand }

func pick[T any](r anything, l ...T) T { return l[r.Intn(len(l))] }

func (r anything) number(l ...int) int {
	if r.Intn(150) == 0 {
		return pick(r, math.MinInt, -1, 0, 17, 1441, 20001, 1000000000, math.MaxInt)
	}
	return pick(r, l...)
}

func (r anything) text(l ...string) string {
	if r.Intn(300) == 0 {
		return pick(r, "", " ", "1a", "\xff", strings.Repeat("a", 25))
	}
	return pick(r, l...)
}

// size is nearly always a small one.
func (r anything) size(n int) int {
	if r.Intn(200) == 0 {
		return pick(r, 9, 24, 25, 160, 161)
	}
	return r.Intn(n)
}

func (r anything) names() []string {
	if r.Intn(2) == 0 {
		return nil
	}
	return repeated(r.size(3), func(i int) string { return r.text(named(i), fmt.Sprint("y", i)) })
}

func (r anything) plan() Plan {
	return Plan{
		Rounds: repeated(r.size(6), func(i int) Round {
			return Round{r.text(named(i)), r.number(1, 2, 3), r.names(), r.names(), r.names(), r.number(0, 1, 2), r.number(4, 5, 9)}
		}),
		Orders: repeated(r.size(3), func(i int) Order { return Order{r.number(0, 1), r.number(2, 3, 4), r.number(0, 1, 2)} }),
		Rest:   r.number(0, 1, 2),
	}
}

// TestAnyArguments checks that no function panics or changes its arguments, and that nothing stands beside an error.
func TestAnyArguments(t *testing.T) {
	r := anything{rand.New(rand.NewSource(30))}
	fine := map[string]int{}
	for range 5000 {
		p := r.plan()
		table := repeated(len(p.Rounds), func(i int) int { return r.number(3*i, 4*i, 5*i) })
		if r.Intn(40) == 0 {
			table = repeated(r.size(6), func(int) int { return r.number(1, 2, 3) })
		}
		// about as many numbers as there are conditions, which often contradict each other
		l := repeated(max(0, len(p.Rounds)+len(p.Orders)+r.Intn(5)-2), func(i int) int { return r.number(i) })
		athlete := r.text("x0", "x1", "y0")
		given := fmt.Sprint(p, table, l)
		for what, f := range functions(p, table, athlete, l) {
			got, e := f()
			switch {
			case e == api.OK:
				fine[what]++
			case what != "CheckTable" || e != api.ErrConflict:
				checkNothing(t, what, got)
			}
		}
		check(t, "the arguments", fmt.Sprint(p, table, l), given)
	}
	for what := range functions(Plan{}, nil, "", nil) {
		if n := fine[what]; n < 150 || n > 4900 {
			t.Errorf("%s is without an error %d times", what, n)
		}
	}
}

// TestOwnResults checks that results of equal calls share no memory with each other, or with the arguments.
func TestOwnResults(t *testing.T) {
	p, table, wrong := sample(), []int{0, 50, 50}, sample(narrow)
	for range 2 {
		conditions, _ := Conditions(p)
		windows, _ := Windows(p)
		first, _ := First(p)
		fastest, _ := Fastest(p)
		core, _ := Core(wrong)
		smallest, _ := Smallest(wrong)
		day, _ := Day(p, table, "ann")
		slack, _ := Slack(p, table)
		load, _ := Load(p)
		check(t, "the results", []any{conditions[0], windows[0], first[1], len(fastest), core[1], smallest[1], day[1], slack[1], load[1]},
			[]any{Condition{"window", 0, 0}, [2]int{0, 45}, 50, 3, 1, 1, 1, 30, Use{"track", 40}})
		conditions[0], windows[0], first[1], fastest[0], core[1], smallest[1], day[1], slack[1], load[1] = Condition{}, [2]int{}, 7, 7, 7, 7, 7, 7, Use{}
	}
	check(t, "the table", table, []int{0, 50, 50})
	check(t, "the plan", p, sample())
}

package timetable

import (
	"fmt"
	"math"
	"slices"
	"strings"
	"testing"

	"stadion/api"
)

// functions are all functions of a plan; those with more arguments have fitting ones.
func functions(p Plan, t []int, athlete string, l []int) map[string]func() (any, api.Errno) {
	return map[string]func() (any, api.Errno){
		"CheckPlan":     func() (any, api.Errno) { return nil, CheckPlan(p) },
		"Conditions":    func() (any, api.Errno) { return Conditions(p) },
		"CheckTable":    func() (any, api.Errno) { return CheckTable(p, t) },
		"End":           func() (any, api.Errno) { return End(p, t) },
		"Windows":       func() (any, api.Errno) { return Windows(p) },
		"Chain":         func() (any, api.Errno) { return Chain(p) },
		"First":         func() (any, api.Errno) { return First(p) },
		"Least":         func() (any, api.Errno) { return Least(p) },
		"Fastest":       func() (any, api.Errno) { return Fastest(p) },
		"Core":          func() (any, api.Errno) { return Core(p) },
		"Smallest":      func() (any, api.Errno) { return Smallest(p) },
		"CheckConflict": func() (any, api.Errno) { return nil, CheckConflict(p, l) },
		"Day":           func() (any, api.Errno) { return Day(p, t, athlete) },
		"Rest":          func() (any, api.Errno) { return Rest(p, t, athlete) },
		"Slack":         func() (any, api.Errno) { return Slack(p, t) },
		"Load":          func() (any, api.Errno) { return Load(p) },
	}
}

// TestErrorsOfPlans removes the errors of a plan one after another, and asks each function for them.
func TestErrorsOfPlans(t *testing.T) {
	many := func(n int) []string { return repeated(n, named) }
	wrong := Plan{Rounds: make([]Round, 25), Orders: make([]Order, 25), Rest: -1}
	list := func(change func(r *Round, l []string)) []rung[Plan] {
		set := func(l ...string) func(p *Plan) { return func(p *Plan) { change(&p.Rounds[1], l) } }
		return []rung[Plan]{
			{api.ErrMany, set("", "a", "a")},
			{api.ErrName, set("a", "a", "")},
			{api.ErrTwice, set("a", "b", "A")},
		}
	}
	rungs := []rung[Plan]{
		{api.ErrMany, func(p *Plan) {
			p.Rounds = []Round{sample().Rounds[0], {"", 0, many(161), many(161), many(161), 5, -1}, {}}
		}},
		{api.ErrName, func(p *Plan) { p.Rounds[1].Name = "heats" }},
		{api.ErrTwice, func(p *Plan) { p.Rounds[1].Name = "final" }},
		{api.ErrRange, func(p *Plan) { p.Rounds[1].Minutes = 1 }},
	}
	rungs = append(rungs, list(func(r *Round, l []string) { r.Areas = l })...)
	rungs = append(rungs, list(func(r *Round, l []string) { r.Officials = l })...)
	rungs = append(rungs, list(func(r *Round, l []string) { r.Athletes = l })...)
	rungs = append(rungs,
		rung[Plan]{api.ErrRange, func(p *Plan) { p.Rounds[1].To = 4 }},
		rung[Plan]{api.ErrOrder, func(p *Plan) { p.Rounds[1].To = 5 }},
		rung[Plan]{api.ErrName, func(p *Plan) { p.Rounds = p.Rounds[:2] }},
		rung[Plan]{api.ErrMany, func(p *Plan) { p.Orders = []Order{{0, 1, 0}, {2, 0, -1}, {5, 5, 5}} }},
		rung[Plan]{api.ErrUnknown, func(p *Plan) { p.Orders[1] = Order{0, 2, -1} }},
		rung[Plan]{api.ErrUnknown, func(p *Plan) { p.Orders[1] = Order{1, 1, -1} }},
		rung[Plan]{api.ErrTwice, func(p *Plan) { p.Orders[1].After = 0 }},
		rung[Plan]{api.ErrRange, func(p *Plan) { p.Orders[1].Rest = 0 }},
		rung[Plan]{api.ErrUnknown, func(p *Plan) { p.Orders = p.Orders[:1] }},
		rung[Plan]{api.ErrRange, func(p *Plan) { *p = sample() }})
	for what := range functions(Plan{}, nil, "", nil) {
		// the plan's error comes ahead of that of the table, which has none, and of the list
		climb(t, what, wrong, func(p Plan) api.Errno {
			table := []int{-1}
			athlete, l := "nobody", []int{}
			if slices.EqualFunc(p.Rounds, sample().Rounds, func(a, b Round) bool { return a.Name == b.Name }) {
				table, athlete, l = []int{0, 50, 50}, "ann", []int{0}
			}
			got, e := functions(p, table, athlete, l)[what]()
			if e != api.OK {
				checkNothing(t, what, got)
			}
			if e == api.ErrNone || e == api.ErrProof {
				return api.OK
			}
			return e
		}, rungs...)
	}
}

// TestRangesOfPlans checks both ends of each range.
func TestRangesOfPlans(t *testing.T) {
	for _, x := range []struct {
		what            string
		least, greatest int
		set             func(p *Plan, n int)
	}{
		{"minutes", 1, 1440, func(p *Plan, n int) { p.Rounds[1].Minutes = n }},
		{"From", 0, 20000, func(p *Plan, n int) { p.Rounds[1].From, p.Rounds[1].To = n, 20000 }},
		{"To", 0, 20000, func(p *Plan, n int) { p.Rounds[1].To = n }},
		{"the rest of an order", 0, 1440, func(p *Plan, n int) { p.Orders[0].Rest = n }},
		{"the rest of a plan", 0, 1440, func(p *Plan, n int) { p.Rest = n }},
	} {
		for n, want := range map[int]api.Errno{
			math.MinInt: api.ErrRange, x.least - 1: api.ErrRange, x.least: api.OK,
			x.greatest: api.OK, x.greatest + 1: api.ErrRange, math.MaxInt: api.ErrRange,
		} {
			p := sample()
			x.set(&p, n)
			check(t, fmt.Sprint(x.what, " ", n), CheckPlan(p), want)
		}
	}
	for n, want := range map[int]api.Errno{math.MinInt: api.ErrUnknown, -1: api.ErrUnknown, 2: api.OK, 3: api.ErrUnknown, math.MaxInt: api.ErrUnknown} {
		check(t, fmt.Sprint("Before ", n), CheckPlan(sample(func(p *Plan) { p.Orders[0] = Order{n, 1, 0} })), want)
		check(t, fmt.Sprint("After ", n), CheckPlan(sample(func(p *Plan) { p.Orders[0] = Order{1, n, 0} })), want)
	}
}

func TestCheckPlan(t *testing.T) {
	names := func(n int) []string { return repeated(n, named) }
	rounds := func(n int) []Round {
		return repeated(n, func(i int) Round { return Round{Name: named(i), Minutes: 1} })
	}
	long := strings.Repeat("a", 24)
	for _, x := range []struct {
		what string
		p    Plan
		want api.Errno
	}{
		{"nothing", Plan{}, api.OK},
		{"24 rounds", Plan{Rounds: rounds(24)}, api.OK},
		{"25 rounds", Plan{Rounds: rounds(25)}, api.ErrMany},
		{"24 orders", Plan{Rounds: rounds(2), Orders: repeated(24, func(i int) Order { return Order{i % 2, 1 - i%2, 7} })}, api.OK},
		{"25 orders", Plan{Rounds: rounds(2), Orders: repeated(25, func(i int) Order { return Order{0, 1, 7} })}, api.ErrMany},
		{"an order without rounds", Plan{Orders: []Order{{0, 1, 0}}}, api.ErrUnknown},
		{"160 names", Plan{Rounds: []Round{{"a", 1, names(160), names(160), names(160), 0, 0}}}, api.OK},
		{"161 areas", sample(func(p *Plan) { p.Rounds[2].Areas = names(161) }), api.ErrMany},
		{"161 officials", sample(func(p *Plan) { p.Rounds[2].Officials = names(161) }), api.ErrMany},
		{"161 athletes", sample(func(p *Plan) { p.Rounds[2].Athletes = names(161) }), api.ErrMany},
		{"a name of 24 bytes", sample(func(p *Plan) { p.Rounds[2].Name = long }), api.OK},
		{"a name of 25 bytes", sample(func(p *Plan) { p.Rounds[2].Name = long + "a" }), api.ErrName},
		{"a name with a space", sample(func(p *Plan) { p.Rounds[2].Areas = []string{"long jump"} }), api.ErrName},
		{"one name for everything", sample(func(p *Plan) {
			p.Rounds[2].Areas, p.Rounds[2].Officials, p.Rounds[2].Athletes = []string{"final"}, []string{"final"}, []string{"final"}
		}), api.OK},
		{"names in two rounds", sample(func(p *Plan) { p.Rounds[2].Areas = []string{"pit"} }), api.OK},
		{"From and To at once", sample(func(p *Plan) { p.Rounds[2].From, p.Rounds[2].To = 7, 7 }), api.OK},
		{"the first round with an error", sample(func(p *Plan) { p.Rounds[0].Minutes, p.Rounds[1].Name = 0, "" }), api.ErrRange},
		{"the first order with an error", sample(func(p *Plan) { p.Orders = []Order{{1, 1, -1}, {0, 9, -1}} }), api.ErrTwice},
	} {
		check(t, x.what, CheckPlan(x.p), x.want)
	}
}

// TestErrorsOfTables asks each function with a table for its errors.
func TestErrorsOfTables(t *testing.T) {
	for _, x := range []struct {
		what  string
		table []int
		want  api.Errno
	}{
		{"none", nil, api.ErrShape},
		{"a short one", []int{0, -1}, api.ErrShape},
		{"a long one", []int{0, 50, 50, -1}, api.ErrShape},
		{"one below 0", []int{0, -1, 50}, api.ErrRange},
		{"the least number", []int{0, 50, math.MinInt}, api.ErrRange},
		{"one above all", []int{0, 50, 1000000000}, api.ErrRange},
		{"the greatest number", []int{math.MaxInt, 50, 50}, api.ErrRange},
	} {
		for _, what := range []string{"CheckTable", "End", "Day", "Rest", "Slack"} {
			got, e := functions(sample(), x.table, "nobody", nil)[what]()
			checkBoth(t, what+" of "+x.what, got, e, nil, x.want)
		}
	}
}

func TestEnd(t *testing.T) {
	for _, x := range []struct {
		what  string
		p     Plan
		table []int
		want  int
	}{
		{"nothing", Plan{}, nil, 0},
		{"a table that fulfils nothing", sample(), []int{0, 0, 0}, 30},
		{"the last round", sample(), []int{0, 10, 90}, 100},
		{"a round that is not the last one to begin", sample(), []int{61, 70, 80}, 91},
		{"the greatest number", sample(), []int{0, 999999999, 0}, 1000000019},
	} {
		n, e := End(x.p, x.table)
		checkBoth(t, x.what, n, e, x.want, api.OK)
	}
}

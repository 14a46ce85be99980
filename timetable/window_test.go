package timetable

import (
	"math"
	"testing"

	"stadion/api"
)

// line is a plan of rounds with these minutes, without anything that they share.
func line(to int, minutes ...int) Plan {
	p := Plan{}
	for i, n := range minutes {
		p.Rounds = append(p.Rounds, Round{Name: named(i), Minutes: n, To: to})
	}
	return p
}

// with adds orders to a plan.
func with(p Plan, l ...Order) Plan {
	p.Orders = append(p.Orders, l...)
	return p
}

// ring is orders of n rounds, each before the next one, and the last one before the first one.
func ring(n int) []Order {
	return repeated(n, func(i int) Order { return Order{i, (i + 1) % n, 0} })
}

func TestWindows(t *testing.T) {
	for _, x := range []struct {
		what string
		p    Plan
		want [][2]int
		e    api.Errno
	}{
		{"nothing", Plan{}, nil, api.OK},
		{"a round alone", line(9, 4), [][2]int{{0, 5}}, api.OK},
		{"a window just as long as the round", line(4, 4), [][2]int{{0, 0}}, api.OK},
		{"a window that is too short", line(3, 4), nil, api.ErrInfeasible},
		{"no orders", line(9, 4, 5), [][2]int{{0, 5}, {0, 4}}, api.OK},
		{"an order", with(line(20, 4, 5), Order{1, 0, 2}), [][2]int{{7, 16}, {0, 9}}, api.OK},
		{"an order that just fits", with(line(11, 4, 5), Order{1, 0, 2}), [][2]int{{7, 7}, {0, 0}}, api.OK},
		{"an order that does not fit", with(line(10, 4, 5), Order{1, 0, 2}), nil, api.ErrInfeasible},
		{"the longer one of two orders", with(line(20, 4, 5), Order{1, 0, 2}, Order{1, 0, 3}, Order{1, 0, 1}), [][2]int{{8, 16}, {0, 8}}, api.OK},
		{"orders from the last round to the first one", with(line(40, 1, 2, 3, 4), Order{1, 0, 1}, Order{2, 1, 1}, Order{3, 2, 1}), [][2]int{{12, 39}, {9, 36}, {5, 32}, {0, 27}}, api.OK},
		{"orders from the first round to the last one", with(line(40, 1, 2, 3, 4), Order{2, 3, 1}, Order{1, 2, 1}, Order{0, 1, 1}), [][2]int{{0, 27}, {2, 29}, {5, 32}, {9, 36}}, api.OK},
		{"a circle", with(line(20000, 1, 1), Order{0, 1, 0}, Order{1, 0, 0}), nil, api.ErrInfeasible},
		{"what rounds share", Plan{Rounds: []Round{{"a", 5, []string{"x"}, nil, nil, 0, 9}, {"b", 5, []string{"x"}, nil, nil, 0, 9}}}, [][2]int{{0, 4}, {0, 4}}, api.OK},
		{"windows one behind another", with(Plan{Rounds: []Round{{"a", 5, nil, nil, nil, 10, 30}, {"b", 5, nil, nil, nil, 12, 25}}}, Order{0, 1, 0}), [][2]int{{10, 15}, {15, 20}}, api.OK},
		{"the greatest numbers", with(Plan{Rounds: []Round{{"a", 1440, nil, nil, nil, 0, 20000}, {"b", 1440, nil, nil, nil, 18560, 20000}}}, Order{0, 1, 1440}), [][2]int{{0, 15680}, {18560, 18560}}, api.OK},
	} {
		w, e := Windows(x.p)
		checkBoth(t, x.what, w, e, x.want, x.e)
	}
	long := with(line(20000, repeated(24, func(int) int { return 7 })...), ring(24)...)
	w, e := Windows(long)
	checkBoth(t, "a circle of all rounds", w, e, nil, api.ErrInfeasible)
	long.Orders = long.Orders[:23]
	w, e = Windows(long)
	checkBoth(t, "all rounds but without the circle", w, e, repeated(24, func(i int) [2]int { return [2]int{7 * i, 20000 - 7*(24-i)} }), api.OK)
}

func TestChain(t *testing.T) {
	late := sample(func(p *Plan) { p.Rounds[0].From, p.Rounds[0].To = 50, 50 })
	long := with(line(0, repeated(24, func(int) int { return 1440 })...), repeated(23, func(i int) Order { return Order{23 - i, 22 - i, 1440} })...)
	for _, x := range []struct {
		what string
		p    Plan
		want int
		e    api.Errno
	}{
		{"nothing", Plan{}, 0, api.OK},
		{"the longest round", line(0, 4, 9, 5), 9, api.OK},
		{"orders in any sequence", with(line(0, 1, 2, 3, 4), Order{1, 0, 1}, Order{2, 1, 1}, Order{3, 2, 1}), 13, api.OK},
		{"two ways", with(line(0, 1, 20, 3, 4), Order{0, 1, 0}, Order{0, 2, 9}, Order{1, 3, 0}, Order{2, 3, 9}), 26, api.OK},
		{"the longer one of two orders", with(line(0, 4, 5), Order{1, 0, 2}, Order{1, 0, 3}, Order{1, 0, 1}), 12, api.OK},
		{"a circle", with(line(9, 1, 2, 3), ring(3)...), 0, api.ErrInfeasible},
		{"a circle beside others", with(line(9, 1, 2, 3, 4), Order{0, 1, 0}, Order{2, 3, 0}, Order{3, 2, 0}), 0, api.ErrInfeasible},
		{"windows do not matter", late, 55, api.OK},
		{"the longest one", long, 24*1440 + 23*1440, api.OK},
	} {
		n, e := Chain(x.p)
		checkBoth(t, x.what, n, e, x.want, x.e)
	}
}

// TestRandomWindows goes through all tables.
func TestRandomWindows(t *testing.T) {
	found := map[api.Errno]int{}
	for what, p := range manyPlans(4, 2000, 3, 3, 2, 12) {
		fixed := laws(p)[:len(p.Rounds)+len(p.Orders)]
		want := repeated(len(p.Rounds), func(int) [2]int { return [2]int{math.MaxInt, -1} })
		windows, chains := api.ErrInfeasible, api.ErrInfeasible
		chain := math.MaxInt
		for x := range tables(len(p.Rounds), 12) {
			if broken(p, fixed, x) == len(fixed) {
				windows = api.OK
				for i, n := range x {
					want[i] = [2]int{min(want[i][0], n), max(want[i][1], n)}
				}
			}
			if orders := fixed[len(p.Rounds):]; broken(p, orders, x) == len(orders) {
				chain, chains = min(chain, endOf(p, x)), api.OK
			}
		}
		w, e := Windows(p)
		checkBoth(t, "the windows of "+what, w, e, want, windows)
		found[e]++
		n, e := Chain(p)
		checkBoth(t, "the chain of "+what, n, e, chain, chains)
	}
	if found[api.OK] < 200 || found[api.ErrInfeasible] < 200 {
		t.Errorf("the results are %v", found)
	}
}

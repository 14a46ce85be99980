package field

import (
	"fmt"
	"math"
	"math/rand"
	"testing"

	"stadion/api"
)

// anything fills in arguments of any form, about every thirtieth value of which is a wrong one.
type anything struct{ *rand.Rand }

func pick[T any](r anything, l ...T) T { return l[r.Intn(len(l))] }

func (r anything) text(l ...string) string {
	if r.Intn(40) == 0 {
		return pick(r, "", " ", "\n", "-1", "1/1", "ox", "\xff", "é", "xxxx", ":", "|")
	}
	return pick(r, l...)
}

func (r anything) number(l ...int) int {
	if r.Intn(40) == 0 {
		return pick(r, math.MinInt, -3, -2, -1, 0, 1000000, math.MaxInt)
	}
	return pick(r, l...)
}

func (r anything) athlete() string { return r.text("ann", "bob", "cat", "dan") }

func (r anything) athletes() []string {
	l := []string{"ann", "bob", "cat"}[:r.Intn(4)]
	if r.Intn(20) == 0 {
		return []string{r.athlete(), r.athlete()}
	}
	return append([]string{}, l...)
}

func (r anything) contest() Contest {
	return Contest{r.athletes(), r.number(1, 2, 3), r.number(1, 2), r.number(1, 2, 3)}
}

func (r anything) vertical() Vertical {
	return Vertical{r.athletes(), []int{r.number(10, 20), r.number(30, 40)}[:1+r.Intn(2)], r.number(10, 20)}
}

func (r anything) act(heights bool) Act {
	if heights {
		return Act{r.athlete(), r.text("clear", "fail", "pass", "retire"), r.number(0)}
	}
	a := Act{r.athlete(), r.text("mark", "foul", "pass", "retire"), r.number(0)}
	if a.Kind == "mark" {
		a.Value = r.number(10, 20, 1234)
	}
	return a
}

func (r anything) acts(heights bool) []Act {
	var l []Act
	for range r.Intn(12) {
		l = append(l, r.act(heights))
	}
	if r.Intn(50) == 0 {
		return make([]Act, pick(r, 1000, 1001))
	}
	return l
}

func (r anything) rows(names []string) []Row {
	return each(names, func(name string) Row {
		x := Row{Athlete: r.text(name), Retired: r.Intn(2) == 0}
		for range r.Intn(4) {
			x.Trials = append(x.Trials, r.number(Foul, Pass, 0, 10, 20))
		}
		return x
	})
}

func (r anything) texts(l ...string) []string {
	var texts []string
	for range r.Intn(3) {
		texts = append(texts, r.text(l...))
	}
	return texts
}

func (r anything) card(name string) Card {
	return Card{r.text(name), r.texts("o", "xo", "-", "xx-"), r.texts("o", "x"), r.Intn(2) == 0}
}

func (r anything) line() string {
	s := r.text("ann", "bob") + r.text(":")
	for range r.Intn(5) {
		s += r.text(" ") + r.text("o", "xo", "-", "|", "x", "retired")
	}
	return s
}

func (r anything) point() [2]int { return [2]int{r.number(0, 3, -5), r.number(1, 4, 7)} }

// two are the results of a function with two of them.
type two struct{ first, second any }

// TestAnyArguments checks that no function panics or changes its arguments, and that nothing stands beside an error.
func TestAnyArguments(t *testing.T) {
	r := anything{rand.New(rand.NewSource(14))}
	fine := map[string]int{}
	for range 5000 {
		c, v, heights, number := r.contest(), r.vertical(), r.Intn(2) == 0, r.number(1, 2, 3)
		acts, jumps, throws := r.acts(heights), r.acts(true), r.acts(false)
		rows, cards, a := r.rows(c.Athletes), each(v.Athletes, r.card), r.act(heights)
		line, x, slope, p, q, s := r.line(), r.card("ann"), api.Rat(r.text("0", "1/2", "3")), r.point(), r.point(), r.point()
		given := fmt.Sprintf("%+v %q", []any{c, v, acts, jumps, throws, rows, cards, x}, []any{c, v, rows, cards, x})
		for name, f := range map[string]func() (any, api.Errno){
			"CheckContest":  func() (any, api.Errno) { return nil, CheckContest(c) },
			"CheckVertical": func() (any, api.Errno) { return nil, CheckVertical(v) },
			"CheckAct":      func() (any, api.Errno) { return nil, CheckAct(a, heights) },
			"Compete":       func() (any, api.Errno) { l, aside, e := Compete(c, throws); return two{l, aside}, e },
			"Next":          func() (any, api.Errno) { who, n, e := Next(c, throws); return two{who, n}, e },
			"CheckRows":     func() (any, api.Errno) { return nil, CheckRows(rows) },
			"Ranking":       func() (any, api.Errno) { return Ranking(rows) },
			"Finalists":     func() (any, api.Errno) { return Finalists(c, rows) },
			"Results":       func() (any, api.Errno) { return Results(rows) },
			"Jump":          func() (any, api.Errno) { l, aside, e := Jump(v, jumps); return two{l, aside}, e },
			"Due":           func() (any, api.Errno) { who, n, e := Due(v, jumps); return two{who, n}, e },
			"CheckCards":    func() (any, api.Errno) { return nil, CheckCards(v, cards) },
			"Standing":      func() (any, api.Errno) { return Standing(v, cards) },
			"OffHeights":    func() (any, api.Errno) { return OffHeights(v, cards) },
			"PrintCard":     func() (any, api.Errno) { return PrintCard(x) },
			"ParseCard":     func() (any, api.Errno) { return ParseCard(line) },
			"Corrected":     func() (any, api.Errno) { return Corrected(acts, number, a, heights) },
			"Throw":         func() (any, api.Errno) { return Throw(number, p[1], slope, number) },
			"Leap":          func() (any, api.Errno) { return Leap(p, q, s) },
			"InSector":      func() (any, api.Errno) { return InSector(p, slope) },
		} {
			got, e := f()
			if e == api.OK {
				fine[name]++
			} else if pair, is := got.(two); is {
				checkNothing(t, name, pair.first, pair.second)
			} else {
				checkNothing(t, name, got)
			}
		}
		check(t, "the arguments", fmt.Sprintf("%+v %q", []any{c, v, acts, jumps, throws, rows, cards, x}, []any{c, v, rows, cards, x}), given)
	}
	if len(fine) < 20 {
		t.Errorf("without errors are %v alone", fine)
	}
}

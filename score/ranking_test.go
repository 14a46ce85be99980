package score

import (
	"cmp"
	"fmt"
	"math/rand"
	"slices"
	"testing"

	"stadion/api"
)

func TestErrorsOfPerformances(t *testing.T) {
	ann := Performance{"ann", 1, 1, 1}
	for what, f := range map[string]func(l []Performance) (any, api.Errno){
		"CheckPerformances": func(l []Performance) (any, api.Errno) { return nil, CheckPerformances(l) },
		"Best": func(l []Performance) (any, api.Errno) {
			n, numbers, e := Best(l, Rule{1, 1}, "ann", 1)
			if e != api.OK {
				checkNothing(t, "Best", numbers)
			}
			return n, e
		},
		"Ranking": func(l []Performance) (any, api.Errno) { return Ranking(l, Rule{1, 1}, 1) },
		"Expires": func(l []Performance) (any, api.Errno) { return Expires(l, Rule{1, 1}, "ann", 1) },
	} {
		e := func(p Performance) api.Errno {
			got, e := f([]Performance{ann, p, ann})
			if e != api.OK {
				checkNothing(t, what, got)
			}
			return e
		}
		climb(t, what, Performance{"", -1, -1, -1}, e,
			rung[Performance]{api.ErrName, func(p *Performance) { p.Athlete = "ann" }},
			rung[Performance]{api.ErrRange, func(p *Performance) { p.Day = 1 }},
			rung[Performance]{api.ErrRange, func(p *Performance) { p.Points = 1 }},
			rung[Performance]{api.ErrRange, func(p *Performance) { p.Bonus = 1 }},
		)
	}
	check(t, "two errors", CheckPerformances([]Performance{{"ann", -1, 1, 1}, {}}), api.ErrRange)
	for what, field := range map[string]func(p *Performance) *int{
		"the day":    func(p *Performance) *int { return &p.Day },
		"the points": func(p *Performance) *int { return &p.Points },
		"the bonus":  func(p *Performance) *int { return &p.Bonus },
	} {
		checkRange(t, what, 0, 99999, func(n int) (any, api.Errno) {
			p := ann
			*field(&p) = n
			return nil, CheckPerformances([]Performance{p})
		})
	}
	many := func(n int) []Performance { return repeated(n, func(int) Performance { return ann }) }
	check(t, "no performances", CheckPerformances(nil), api.OK)
	check(t, "1000 performances", CheckPerformances(many(1000)), api.OK)
	check(t, "1001 performances", CheckPerformances(many(1001)), api.ErrMany)
	check(t, "1001 wrong performances", CheckPerformances(make([]Performance, 1001)), api.ErrMany)
}

// request is what rankings are asked.
type request struct {
	l       []Performance
	r       Rule
	athlete string
	day     int
}

func TestErrorsOfRankings(t *testing.T) {
	wrong := request{make([]Performance, 1), Rule{0, 0}, "1", -1}
	rungs := []rung[request]{
		{api.ErrName, func(x *request) { x.l = performances() }},
		{api.ErrRange, func(x *request) { x.r.Window = 30 }},
		{api.ErrRange, func(x *request) { x.r.Count = 2 }},
		{api.ErrName, func(x *request) { x.athlete = "ben" }},
		{api.ErrRange, func(x *request) { x.day = 39 }},
		{api.ErrNone, func(x *request) { x.day = 40 }},
	}
	climb(t, "Best", wrong, func(x request) api.Errno {
		n, numbers, e := Best(x.l, x.r, x.athlete, x.day)
		if e != api.OK {
			checkNothing(t, "Best", n)
			checkNothing(t, "Best", numbers)
		}
		return e
	}, rungs...)
	climb(t, "Expires", wrong, func(x request) api.Errno {
		n, e := Expires(x.l, x.r, x.athlete, x.day)
		if e != api.OK {
			checkNothing(t, "Expires", n)
		}
		return e
	}, rungs...)
	climb(t, "Ranking", wrong, func(x request) api.Errno {
		l, e := Ranking(x.l, x.r, x.day)
		if e != api.OK {
			checkNothing(t, "Ranking", l)
		}
		return e
	}, rungs[0], rungs[1], rungs[2], rungs[4])
	for what, x := range map[string]struct {
		least, greatest int
		field           func(x *request) *int
	}{
		"the window": {1, 99999, func(x *request) *int { return &x.r.Window }},
		"the count":  {1, 20, func(x *request) *int { return &x.r.Count }},
		"the day":    {0, 99999, func(x *request) *int { return &x.day }},
	} {
		for name, f := range map[string]func(x request) (any, api.Errno){
			"Best": func(x request) (any, api.Errno) {
				n, _, e := Best(x.l, x.r, x.athlete, x.day)
				return n, ignored(e, api.ErrNone)
			},
			"Expires": func(x request) (any, api.Errno) {
				n, e := Expires(x.l, x.r, x.athlete, x.day)
				return n, ignored(e, api.ErrNone)
			},
			"Ranking": func(x request) (any, api.Errno) { return Ranking(x.l, x.r, x.day) },
		} {
			checkRange(t, name+", "+what, x.least, x.greatest, func(n int) (any, api.Errno) {
				y := request{performances(), rule(), "ann", 40}
				*x.field(&y) = n
				return f(y)
			})
		}
	}
}

// of returns performances of ann with days and worths.
func of(l ...[2]int) []Performance {
	return each(l, func(x [2]int) Performance { return Performance{"ann", x[0], x[1], 0} })
}

func TestBest(t *testing.T) {
	for _, x := range []struct {
		what    string
		l       []Performance
		r       Rule
		day     int
		score   int
		numbers []int
	}{
		{"the first day of the window", of([2]int{10, 7}), Rule{5, 1}, 14, 7, []int{0}},
		{"the last day of the window", of([2]int{10, 7}), Rule{5, 1}, 10, 7, []int{0}},
		{"a window of one day", of([2]int{10, 7}, [2]int{9, 9}, [2]int{11, 9}), Rule{1, 5}, 10, 7, []int{0}},
		{"the greatest window", of([2]int{0, 7}, [2]int{1, 8}), Rule{99999, 2}, 99999, 8, []int{1}},
		{"the whole time", of([2]int{0, 7}, [2]int{1, 8}), Rule{99999, 2}, 99998, 15, []int{0, 1}},
		{"the greatest worths", of([2]int{1, 5}, [2]int{2, 9}, [2]int{3, 7}), Rule{9, 2}, 3, 16, []int{1, 2}},
		{"fewer than count", of([2]int{1, 5}, [2]int{2, 9}), Rule{9, 20}, 3, 14, []int{0, 1}},
		{"the later one of equal ones", of([2]int{3, 5}, [2]int{2, 5}, [2]int{4, 5}), Rule{9, 1}, 4, 5, []int{2}},
		{"two later ones of equal ones", of([2]int{3, 5}, [2]int{2, 5}, [2]int{4, 5}), Rule{9, 2}, 4, 10, []int{0, 2}},
		{"the one ahead in the list", of([2]int{2, 5}, [2]int{3, 5}, [2]int{3, 5}), Rule{9, 1}, 4, 5, []int{1}},
		{"points and bonus", []Performance{{"ann", 1, 5, 5}, {"ann", 1, 9, 0}, {"ann", 1, 0, 11}}, Rule{9, 2}, 1, 21, []int{0, 2}},
		{"worths of 0", of([2]int{1, 0}, [2]int{2, 0}), Rule{9, 5}, 2, 0, []int{0, 1}},
		{"others", []Performance{{"bob", 1, 99, 0}, {"ann", 1, 5, 0}, {"Ann", 1, 99, 0}}, Rule{9, 5}, 2, 5, []int{1}},
		{"the greatest numbers", repeated(30, func(int) Performance { return Performance{"ann", 99999, 99999, 99999} }), Rule{9, 20}, 99999, 3999960,
			repeated(20, func(i int) int { return i })},
	} {
		score, numbers, e := Best(x.l, x.r, "ann", x.day)
		checkBoth(t, x.what, []any{score, numbers}, e, []any{x.score, x.numbers}, api.OK)
	}
	for what, x := range map[string]request{
		"nobody":          {nil, Rule{9, 9}, "ann", 5},
		"others alone":    {of([2]int{5, 5}), Rule{9, 9}, "bob", 5},
		"before":          {of([2]int{5, 5}), Rule{9, 9}, "ann", 4},
		"just behind":     {of([2]int{5, 5}), Rule{9, 9}, "ann", 14},
		"later ones only": {of([2]int{6, 5}), Rule{9, 9}, "ann", 5},
	} {
		score, numbers, e := Best(x.l, x.r, x.athlete, x.day)
		checkBoth(t, what, score, e, nil, api.ErrNone)
		checkNothing(t, what, numbers)
		n, e := Expires(x.l, x.r, x.athlete, x.day)
		checkBoth(t, what+", Expires", n, e, nil, api.ErrNone)
	}
}

func TestExpires(t *testing.T) {
	for _, x := range []struct {
		what string
		l    []Performance
		r    Rule
		day  int
		want int
		e    api.Errno
	}{
		{"the only one", of([2]int{10, 7}), Rule{5, 1}, 10, 15, api.OK},
		{"on its last day", of([2]int{10, 7}), Rule{5, 1}, 14, 15, api.OK},
		{"one that counts", of([2]int{10, 7}, [2]int{12, 8}), Rule{5, 2}, 13, 15, api.OK},
		{"one that does not count", of([2]int{10, 7}, [2]int{12, 8}), Rule{5, 1}, 13, 17, api.OK},
		{"an equal one moves up", of([2]int{10, 7}, [2]int{12, 7}), Rule{5, 1}, 13, 17, api.OK},
		{"an equal one moves up from behind", of([2]int{10, 9}, [2]int{12, 8}, [2]int{11, 9}, [2]int{13, 8}), Rule{5, 1}, 13, 16, api.OK},
		{"later ones do not matter", of([2]int{10, 7}, [2]int{12, 9}, [2]int{15, 7}), Rule{5, 1}, 11, 15, api.OK},
		{"others do not matter", []Performance{{"bob", 8, 9, 0}, {"ann", 10, 7, 0}, {"bob", 9, 9, 0}}, Rule{5, 9}, 10, 15, api.OK},
		{"one without worth leaves first", of([2]int{10, 0}, [2]int{12, 8}), Rule{5, 2}, 12, 17, api.OK},
		{"no worth", of([2]int{10, 0}, [2]int{12, 0}), Rule{5, 2}, 12, 0, api.ErrNone},
		{"behind the last day", of([2]int{99999, 1}), Rule{99999, 1}, 99999, 199998, api.OK},
	} {
		n, e := Expires(x.l, x.r, "ann", x.day)
		checkBoth(t, x.what, n, e, x.want, x.e)
	}
}

func TestRanking(t *testing.T) {
	for _, x := range []struct {
		what string
		l    []Performance
		r    Rule
		day  int
		want []Standing
	}{
		{"nobody", nil, Rule{9, 9}, 5, nil},
		{"nobody in the window", []Performance{{"ann", 1, 5, 0}, {"bob", 6, 5, 0}}, Rule{3, 9}, 5, nil},
		{"equal ones by their names", []Performance{{"b", 1, 5, 0}, {"a", 1, 4, 1}, {"B", 1, 0, 5}, {"c", 1, 6, 0}, {"d", 1, 1, 0}}, Rule{9, 9}, 5,
			[]Standing{{"c", 6, 1}, {"B", 5, 2}, {"a", 5, 2}, {"b", 5, 2}, {"d", 1, 5}}},
		{"the greater first worth", []Performance{{"a", 1, 5, 0}, {"a", 1, 5, 0}, {"b", 1, 7, 0}, {"b", 1, 3, 0}}, Rule{9, 9}, 5, []Standing{{"b", 10, 1}, {"a", 10, 2}}},
		{"the greater second worth", []Performance{{"a", 1, 2, 0}, {"a", 1, 6, 0}, {"a", 1, 2, 0}, {"b", 1, 6, 0}, {"b", 1, 3, 0}, {"b", 1, 1, 0}}, Rule{9, 9}, 5, []Standing{{"b", 10, 1}, {"a", 10, 2}}},
		{"a list that ends", []Performance{{"a", 1, 5, 0}, {"b", 1, 5, 0}, {"b", 1, 0, 0}}, Rule{9, 9}, 5, []Standing{{"b", 5, 1}, {"a", 5, 2}}},
		{"a list that does not count any more", []Performance{{"b", 1, 5, 0}, {"a", 1, 5, 0}, {"b", 1, 0, 0}}, Rule{9, 1}, 5, []Standing{{"a", 5, 1}, {"b", 5, 1}}},
		{"no worth", []Performance{{"b", 1, 0, 0}, {"a", 1, 0, 0}}, Rule{9, 1}, 5, []Standing{{"a", 0, 1}, {"b", 0, 1}}},
	} {
		l, e := Ranking(x.l, x.r, x.day)
		checkBoth(t, x.what, l, e, x.want, api.OK)
	}
	l, e := Ranking(repeated(1000, func(i int) Performance { return Performance{named(i), 1, i, 0} }), Rule{1, 1}, 1)
	check(t, "many athletes", []any{len(l), l[0], l[999], e}, []any{1000, Standing{"x999", 999, 1}, Standing{"x0", 0, 1000}, api.OK})
}

// randomRequest returns few athletes with few different worths and days.
func randomRequest(r *rand.Rand) request {
	days := 1 + r.Intn(30)
	l := repeated(r.Intn(25), func(int) Performance {
		return Performance{[]string{"a", "b", "c"}[r.Intn(3)], r.Intn(days), r.Intn(4), r.Intn(3)}
	})
	return request{l, Rule{1 + r.Intn(12), 1 + r.Intn(5)}, []string{"a", "b", "c"}[r.Intn(3)], r.Intn(days)}
}

// chosen returns the numbers of the performances that count, which are chosen one after another, and their worths.
func chosen(x request) (numbers, worths []int) {
	for len(numbers) < x.r.Count {
		next := -1
		for i, p := range x.l {
			if p.Athlete != x.athlete || p.Day > x.day || p.Day <= x.day-x.r.Window || slices.Contains(numbers, i) {
				continue
			}
			if next < 0 {
				next = i
				continue
			}
			q := x.l[next]
			a, b := p.Points+p.Bonus, q.Points+q.Bonus
			if a > b || a == b && p.Day > q.Day {
				next = i
			}
		}
		if next < 0 {
			break
		}
		numbers, worths = append(numbers, next), append(worths, x.l[next].Points+x.l[next].Bonus)
	}
	return numbers, worths
}

func TestRandomBest(t *testing.T) {
	r := rand.New(rand.NewSource(7))
	found := map[api.Errno]int{}
	for range 5000 {
		x := randomRequest(r)
		numbers, worths := chosen(x)
		slices.Sort(numbers)
		total := sum(worths)
		wanted := api.OK
		if len(numbers) == 0 {
			wanted = api.ErrNone
		}
		score, list, e := Best(x.l, x.r, x.athlete, x.day)
		checkBoth(t, fmt.Sprint("the score of ", x), score, e, total, wanted)
		checkBoth(t, fmt.Sprint("what counts of ", x), list, e, numbers, wanted)

		// one day after another, with what is known on the day
		later := x
		later.l = those(x.l, func(p Performance) bool { return p.Day <= x.day })
		want := 0
		for day := x.day + 1; day < x.day+20 && want == 0; day++ {
			later.day = day
			if _, worths := chosen(later); sum(worths) != total {
				want = day
			}
		}
		if want == 0 {
			wanted = api.ErrNone
		}
		n, e := Expires(x.l, x.r, x.athlete, x.day)
		checkBoth(t, fmt.Sprint("Expires of ", x), n, e, want, wanted)
		found[e]++
	}
	if found[api.OK] < 1000 || found[api.ErrNone] < 1000 {
		t.Errorf("the results are %v", found)
	}
}

func TestRandomRankings(t *testing.T) {
	r := rand.New(rand.NewSource(8))
	for range 5000 {
		x := randomRequest(r)
		lists := map[string][]int{}
		for _, x.athlete = range []string{"a", "b", "c"} {
			if _, worths := chosen(x); len(worths) > 0 {
				lists[x.athlete] = worths
			}
		}
		isAhead := func(a, b string) bool {
			n, m := sum(lists[a]), sum(lists[b])
			for i := 0; n == m && i < len(lists[a]); i++ {
				n, m = lists[a][i], -1
				if i < len(lists[b]) {
					m = lists[b][i]
				}
			}
			return n > m
		}
		var want []Standing
		for a, list := range lists {
			s := Standing{a, sum(list), 1}
			for b := range lists {
				if isAhead(b, a) {
					s.Rank++
				}
			}
			want = append(want, s)
		}
		slices.SortFunc(want, func(a, b Standing) int {
			return cmp.Or(cmp.Compare(a.Rank, b.Rank), cmp.Compare(a.Athlete, b.Athlete))
		})
		l, e := Ranking(x.l, x.r, x.day)
		checkBoth(t, fmt.Sprint("the ranking of ", x), l, e, want, api.OK)

		order := r.Perm(len(x.l))
		again, _ := Ranking(each(order, func(i int) Performance { return x.l[i] }), x.r, x.day)
		check(t, "the ranking in another order", again, l)
		for i := range x.l {
			without := slices.Delete(slices.Clone(x.l), i, i+1)
			again, _ := Ranking(without, x.r, x.day)
			x.athlete = x.l[i].Athlete
			if numbers, _ := chosen(x); !slices.Contains(numbers, i) {
				check(t, "the ranking without one that does not count", again, l)
			}
		}
	}
}

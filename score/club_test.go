package score

import (
	"cmp"
	"fmt"
	"math/big"
	"math/rand"
	"slices"
	"strings"
	"testing"

	"stadion/api"
	"stadion/mark"
)

// one returns a line of an athlete named like the club.
func one(club string, m api.Mark) Line { return Line{club, club, m} }

func TestErrorsOfLines(t *testing.T) {
	ann := Line{"ann", "north", run(5)}
	for what, e := range map[string]func(x Line) api.Errno{
		"CheckLines": func(x Line) api.Errno { return CheckLines([]Line{{"bob", "north", none("DNF")}, ann, x}) },
		"Award": func(x Line) api.Errno {
			l, e := Award([]Line{ann, x}, nil, 1)
			if e != api.OK {
				checkNothing(t, "Award", l)
			}
			return e
		},
	} {
		climb(t, what, Line{"1", "1", api.Mark{Kind: "length", Value: -1, Reason: "DNS"}}, e,
			rung[Line]{api.ErrName, func(x *Line) { x.Athlete = "ann" }},
			rung[Line]{api.ErrName, func(x *Line) { x.Club = "north" }},
			rung[Line]{api.ErrTwice, func(x *Line) { x.Athlete = "cat" }},
			rung[Line]{api.ErrForm, func(x *Line) { x.Mark.Reason = "" }},
			rung[Line]{api.ErrRange, func(x *Line) { x.Mark.Value = 1 }},
			rung[Line]{api.ErrKind, func(x *Line) { x.Mark.Kind = "points" }},
			rung[Line]{api.ErrKind, func(x *Line) { x.Mark.Kind = "x" }},
			rung[Line]{api.ErrKind, func(x *Line) { x.Mark.Kind = "time" }},
		)
	}
	for _, x := range []struct {
		what string
		l    []Line
		want api.Errno
	}{
		{"no lines", nil, api.OK},
		{"an athlete without a name", []Line{{"", "a", run(1)}}, api.ErrName},
		{"a club without a name", []Line{{"a", "", run(1)}}, api.ErrName},
		{"none between others", []Line{one("a", run(1)), one("b", none("DNS")), one("c", run(2))}, api.OK},
		{"none between different kinds", []Line{one("a", run(1)), one("b", none("DNS")), one("c", leap(2))}, api.ErrKind},
		{"none in front", []Line{one("a", none("NM")), one("b", leap(1)), one("c", leap(2))}, api.OK},
		{"none alone", []Line{one("a", none("NM")), one("b", none("DQ"))}, api.OK},
		{"points", []Line{one("a", pointed(1)), one("b", pointed(1))}, api.OK},
		{"an error behind different kinds", []Line{one("a", run(1)), one("b", leap(1)), one("1", run(1))}, api.ErrKind},
		{"different kinds behind an error", []Line{one("a", run(1)), one("1", run(1)), one("b", leap(1))}, api.ErrName},
		{"an athlete in two clubs", []Line{one("a", run(1)), {"a", "b", run(1)}}, api.ErrTwice},
		{"160 lines", repeated(160, func(i int) Line { return one(named(i), run(1)) }), api.OK},
		{"161 lines", repeated(161, func(i int) Line { return one(named(i), run(1)) }), api.ErrMany},
		{"161 wrong lines", make([]Line, 161), api.ErrMany},
	} {
		check(t, x.what, CheckLines(x.l), x.want)
		l, e := Award(x.l, []int{7}, 160)
		check(t, x.what+", Award", e, x.want)
		if e != api.OK {
			checkNothing(t, x.what+", Award", l)
		}
	}
}

func TestErrorsOfAward(t *testing.T) {
	type value struct {
		l       []Line
		tariff  []int
		scorers int
	}
	climb(t, "Award", value{make([]Line, 1), make([]int, 161), 0},
		func(x value) api.Errno {
			l, e := Award(x.l, x.tariff, x.scorers)
			if e != api.OK {
				checkNothing(t, "Award", l)
			}
			return e
		},
		rung[value]{api.ErrName, func(x *value) { x.l = nil }},
		rung[value]{api.ErrMany, func(x *value) { x.tariff = []int{3, 5, -1} }},
		rung[value]{api.ErrOrder, func(x *value) { x.tariff[1] = 3 }},
		rung[value]{api.ErrRange, func(x *value) { x.tariff[2] = 4 }},
		rung[value]{api.ErrOrder, func(x *value) { x.tariff[2] = 3 }},
		rung[value]{api.ErrRange, func(x *value) { x.scorers = 1 }},
	)
	checkRange(t, "points of a tariff", 0, 99999, func(n int) (any, api.Errno) { return Award(nil, []int{n}, 1) })
	checkRange(t, "further points of a tariff", 0, 99999, func(n int) (any, api.Errno) { return Award(nil, []int{99999, n}, 1) })
	checkRange(t, "scorers", 1, 160, func(n int) (any, api.Errno) { return Award(nil, nil, n) })
	_, e := Award(nil, make([]int, 160), 1)
	check(t, "a tariff of 160 numbers", e, api.OK)
}

func TestAward(t *testing.T) {
	for _, x := range []struct {
		what    string
		l       []Line
		tariff  []int
		scorers int
		want    []Club
	}{
		{"nobody", nil, []int{1}, 1, nil},
		{"no tariff", []Line{one("b", run(1)), one("a", run(2))}, nil, 1, []Club{{"a", "0"}, {"b", "0"}}},
		{"a short tariff", []Line{one("a", run(3)), one("b", run(1)), one("c", run(2))}, []int{5, 4}, 1, []Club{{"b", "5"}, {"c", "4"}, {"a", "0"}}},
		{"lengths", []Line{one("a", leap(1)), one("b", leap(2))}, []int{5, 4}, 1, []Club{{"b", "5"}, {"a", "4"}}},
		{"points", []Line{one("a", pointed(1)), one("b", pointed(2))}, []int{5, 4}, 1, []Club{{"b", "5"}, {"a", "4"}}},
		{"all are equal", []Line{one("b", run(1)), one("a", run(1)), one("c", run(1))}, []int{5, 2}, 1, []Club{{"a", "7/3"}, {"b", "7/3"}, {"c", "7/3"}}},
		{"equal ones at the end of the tariff", []Line{one("a", run(1)), one("b", run(2)), one("c", run(2)), one("d", run(2))}, []int{5, 2}, 1,
			[]Club{{"a", "5"}, {"b", "2/3"}, {"c", "2/3"}, {"d", "2/3"}}},
		{"the rank behind equal ones", []Line{one("a", run(1)), one("b", run(1)), one("c", run(2))}, []int{6, 4, 3, 1}, 1, []Club{{"a", "5"}, {"b", "5"}, {"c", "3"}}},
		{"no marks", []Line{one("a", none("DNS")), one("b", none("DQ")), one("c", run(9))}, []int{6, 4, 3}, 1, []Club{{"c", "6"}, {"a", "0"}, {"b", "0"}}},
		{"no marks at all", []Line{one("b", none("DNS")), one("a", none("DQ"))}, []int{6, 4, 3}, 2, []Club{{"a", "0"}, {"b", "0"}}},
		{"the best ones of a club", []Line{{"x", "a", run(3)}, {"y", "a", none("DNF")}, {"z", "a", run(1)}, {"w", "b", run(2)}}, []int{5, 4, 3}, 2, []Club{{"a", "8"}, {"b", "4"}}},
		{"all of a club", []Line{{"x", "a", run(3)}, {"y", "a", run(4)}, {"z", "a", run(1)}, {"w", "b", run(2)}}, []int{9, 4, 3, 2}, 160, []Club{{"a", "14"}, {"b", "4"}}},
		{"the one of a club", []Line{{"x", "a", run(3)}, {"y", "a", run(4)}, {"z", "a", run(1)}, {"w", "b", run(2)}}, []int{9, 4, 3, 2}, 1, []Club{{"a", "9"}, {"b", "4"}}},
		{"names by bytes", []Line{one("b", run(1)), one("B", run(1)), one("a_", run(1)), one("a1", run(1)), one("a", run(1))}, []int{5}, 1,
			[]Club{{"B", "1"}, {"a", "1"}, {"a1", "1"}, {"a_", "1"}, {"b", "1"}}},
		{"fractions that are nearly equal", []Line{one("a", run(3)), one("b", run(3)), one("c", run(3)), one("d", run(1)), one("e", run(1))}, []int{3, 2, 2, 2, 3}[:4], 1,
			[]Club{{"d", "5/2"}, {"e", "5/2"}, {"a", "4/3"}, {"b", "4/3"}, {"c", "4/3"}}},
	} {
		l, e := Award(x.l, x.tariff, x.scorers)
		checkBoth(t, x.what, l, e, x.want, api.OK)
	}
}

// numberOf returns a number as one of math/big.
func numberOf(x api.Rat) *big.Rat {
	n, _ := new(big.Rat).SetString(string(x))
	return n
}

// arranged returns clubs with more points first, equal ones by their names.
func arranged(points map[string]*big.Rat) []Club {
	var l []Club
	for name, x := range points {
		l = append(l, Club{name, api.Rat(x.RatString())})
	}
	slices.SortFunc(l, func(a, b Club) int {
		return cmp.Or(points[b.Name].Cmp(points[a.Name]), cmp.Compare(a.Name, b.Name))
	})
	return l
}

// randomLines returns lines with few clubs and few different marks, and a tariff.
func randomLines(r *rand.Rand) ([]Line, []int) {
	l := repeated(r.Intn(20), func(i int) Line {
		m := leap(r.Intn(1 + r.Intn(12)))
		if r.Intn(6) == 0 {
			m = none("NM")
		}
		return Line{named(i), []string{"a", "b", "c", "d"}[r.Intn(4)], m}
	})
	tariff := repeated(r.Intn(22), func(int) int { return r.Intn(9) })
	return l, descending(tariff)
}

// TestRandomAwards gives the points out place by place.
func TestRandomAwards(t *testing.T) {
	r := rand.New(rand.NewSource(5))
	for range 5000 {
		l, tariff := randomLines(r)
		scorers := 1 + r.Intn(5)
		of := map[string][]*big.Rat{}
		given := new(big.Rat)
		for _, x := range l {
			before, equal := 0, 0
			for _, other := range l {
				order, _ := mark.Compare(other.Mark, x.Mark)
				if order < 0 {
					before++
				} else if order == 0 {
					equal++
				}
			}
			points := new(big.Rat)
			for place := before; place < before+equal && place < len(tariff) && x.Mark.Kind != "none"; place++ {
				points.Add(points, big.NewRat(int64(tariff[place]), int64(equal)))
			}
			of[x.Club] = append(of[x.Club], points)
			given.Add(given, points)
		}
		want, all := map[string]*big.Rat{}, map[string]*big.Rat{}
		for club, list := range of {
			slices.SortFunc(list, func(a, b *big.Rat) int { return b.Cmp(a) })
			want[club], all[club] = new(big.Rat), new(big.Rat)
			for i, x := range list {
				all[club].Add(all[club], x)
				if i < scorers {
					want[club].Add(want[club], x)
				}
			}
		}
		clubs, e := Award(l, tariff, scorers)
		checkBoth(t, fmt.Sprint("the points for ", l), clubs, e, arranged(want), api.OK)
		clubs, e = Award(l, tariff, 20)
		checkBoth(t, fmt.Sprint("the points of all for ", l), clubs, e, arranged(all), api.OK)
		sum := new(big.Rat)
		for _, c := range clubs {
			sum.Add(sum, numberOf(c.Points))
		}
		check(t, "the points of all lines", sum, given)
	}
}

func TestErrorsOfLeague(t *testing.T) {
	climb(t, "League", Club{"1", "-2/4"},
		func(c Club) api.Errno {
			l, e := League([][]Club{{{"a", "1"}}, {{"a", "1"}, c}})
			if e != api.OK {
				checkNothing(t, "League", l)
			}
			return e
		},
		rung[Club]{api.ErrName, func(c *Club) { c.Name = "a" }},
		rung[Club]{api.ErrTwice, func(c *Club) { c.Name = "b" }},
		rung[Club]{api.ErrForm, func(c *Club) { c.Points = "-1" + api.Rat(strings.Repeat("0", 600)) }},
		rung[Club]{api.ErrLarge, func(c *Club) { c.Points = "-1/2" }},
		rung[Club]{api.ErrRange, func(c *Club) { c.Points = "" }},
		rung[Club]{api.ErrForm, func(c *Club) { c.Points = "0" }},
	)
	clubs := func(n int) []Club { return repeated(n, func(i int) Club { return Club{named(i), "0"} }) }
	for _, x := range []struct {
		what string
		l    [][]Club
		want api.Errno
	}{
		{"256 lists", make([][]Club, 256), api.OK},
		{"257 lists", make([][]Club, 257), api.ErrMany},
		{"257 wrong lists", repeated(257, func(int) []Club { return make([]Club, 257) }), api.ErrMany},
		{"256 clubs", [][]Club{clubs(256)}, api.OK},
		{"257 clubs", [][]Club{clubs(257)}, api.ErrMany},
		{"257 wrong clubs", [][]Club{make([]Club, 257)}, api.ErrMany},
		{"a wrong list in front", [][]Club{{{"1", "0"}}, clubs(257)}, api.ErrName},
		{"a wrong list behind", [][]Club{clubs(257), {{"1", "0"}}}, api.ErrMany},
		{"a name twice in one list", [][]Club{{{"a", "0"}, {"b", "0"}, {"a", "1"}}}, api.ErrTwice},
		{"a name twice in two lists", [][]Club{{{"a", "0"}}, {{"a", "0"}}}, api.OK},
	} {
		l, e := League(x.l)
		check(t, x.what, e, x.want)
		if e != api.OK {
			checkNothing(t, x.what, l)
		}
	}
}

func TestLeague(t *testing.T) {
	for _, x := range []struct {
		what string
		l    [][]Club
		want []Club
	}{
		{"nothing", nil, nil},
		{"empty lists", [][]Club{{}, nil}, nil},
		{"one list", [][]Club{{{"b", "1/2"}, {"a", "1/2"}, {"c", "2/3"}, {"d", "0"}}}, []Club{{"c", "2/3"}, {"a", "1/2"}, {"b", "1/2"}, {"d", "0"}}},
		{"sums in lowest terms", [][]Club{{{"a", "1/6"}}, {{"a", "1/3"}}, {{"a", "1/2"}}}, []Club{{"a", "1"}}},
		{"sums of nothing", [][]Club{{{"a", "0"}}, {{"a", "0"}}}, []Club{{"a", "0"}}},
		{"clubs of some lists", [][]Club{{{"a", "3"}, {"b", "2"}}, {{"c", "9/2"}}, {{"b", "5/2"}}}, []Club{{"b", "9/2"}, {"c", "9/2"}, {"a", "3"}}},
	} {
		l, e := League(x.l)
		checkBoth(t, x.what, l, e, x.want, api.OK)
	}
	many := repeated(256, func(i int) []Club {
		return repeated(256, func(j int) Club { return Club{named(256*i + j), "1"} })
	})
	l, e := League(many)
	check(t, "many clubs", []any{len(l), e}, []any{65536, api.OK})
}

// lists returns a list with a club for each number.
func lists(l ...api.Rat) [][]Club {
	return each(l, func(x api.Rat) []Club { return []Club{{"a", x}} })
}

func TestLongSums(t *testing.T) {
	nines, zeros := strings.Repeat("9", 600), strings.Repeat("0", 599)
	// coprime denominators of 600 digits
	a, b := api.Rat("1"+zeros), api.Rat(nines)
	var (
		ofA  = "1/" + a
		ofB  = "1/" + b
		notA = api.Rat(strings.Repeat("9", 599)) + "/" + a
		notB = api.Rat(strings.Repeat("9", 599)+"8") + "/" + b
	)
	for _, x := range []struct {
		what string
		l    []api.Rat
		want api.Rat
		e    api.Errno
	}{
		{"the greatest integer", []api.Rat{b[:599] + "8", "1"}, b, api.OK},
		{"one more", []api.Rat{b, "1"}, "", api.ErrLarge},
		{"a numerator that is too long", []api.Rat{b, "1/2"}, "", api.ErrLarge},
		{"the least fraction", []api.Rat{ofB, "0"}, ofB, api.OK},
		{"a long denominator", []api.Rat{ofA, ofB}, "", api.ErrLarge},
		{"a denominator that is long on the way", []api.Rat{ofA, ofB, notB}, a[:599] + "1/" + a, api.OK},
		{"no denominator behind two long ones", []api.Rat{ofA, ofB, notB, notA}, "2", api.OK},
		{"two long denominators in another order", []api.Rat{notB, ofA, notA, ofB}, "2", api.OK},
		{"a long one is left", []api.Rat{ofA, ofB, notB, notA, ofA, ofB}, "", api.ErrLarge},
		{"1 is missing", []api.Rat{ofA, notB}, "", api.ErrLarge},
	} {
		l, e := League(lists(x.l...))
		checkBoth(t, x.what, l, e, []Club{{"a", x.want}}, x.e)
	}
	l, e := League([][]Club{{{"a", ofA}, {"b", "1"}}, {{"b", "2"}, {"a", ofB}}, {{"c", "0"}}})
	checkBoth(t, "one long sum of three", l, e, nil, api.ErrLarge)
}

// TestRandomSums adds numbers whose denominators have factors in common.
func TestRandomSums(t *testing.T) {
	r := rand.New(rand.NewSource(6))
	large, _ := new(big.Int).SetString("1"+strings.Repeat("0", 600), 10)
	power := func(n, exponent int64) *big.Int { return new(big.Int).Exp(big.NewInt(n), big.NewInt(exponent), nil) }
	factors := []*big.Int{power(2, 1), power(10, 9), power(10, 12), power(7, 350), power(11, 285), power(13, 268), power(17, 240), power(19, 233)}
	found := map[api.Errno]int{}
	for range 200 {
		sum := new(big.Rat)
		var l []api.Rat
		add := func(x *big.Rat) {
			if x.Sign() >= 0 && x.Num().Cmp(large) < 0 && x.Denom().Cmp(large) < 0 {
				sum.Add(sum, x)
				l = append(l, api.Rat(x.RatString()))
			}
		}
		add(new(big.Rat))
		for range 1 + r.Intn(6) {
			den := big.NewInt(1)
			for range 1 + r.Intn(2) {
				den.Mul(den, factors[r.Intn(len(factors))])
			}
			x := new(big.Rat).SetFrac(new(big.Int).Rand(r, den), den)
			add(x)
			if r.Intn(3) > 0 { // and what is missing to an integer
				add(new(big.Rat).Sub(big.NewRat(1, 1), x))
			}
		}
		r.Shuffle(len(l), func(i, j int) { l[i], l[j] = l[j], l[i] })
		wanted := api.OK
		if sum.Num().Cmp(large) >= 0 || sum.Denom().Cmp(large) >= 0 {
			wanted = api.ErrLarge
		}
		clubs, e := League(lists(l...))
		checkBoth(t, "the sum", clubs, e, []Club{{"a", api.Rat(sum.RatString())}}, wanted)
		found[e]++
	}
	if found[api.OK] < 60 || found[api.ErrLarge] < 30 {
		t.Errorf("the results are %v", found)
	}
}

// TestLongestSum adds as many numbers as there may be, whose denominators are long and coprime.
func TestLongestSum(t *testing.T) {
	var l []api.Rat
	part := new(big.Int).Exp(big.NewInt(10), big.NewInt(590), nil)
	for i := range 85 {
		den := new(big.Int).Add(part, big.NewInt(int64(2*i+1)))
		x := new(big.Rat).SetFrac(big.NewInt(1), den)
		l = append(l, api.Rat(x.RatString()), api.Rat(x.RatString()), api.Rat(new(big.Rat).Sub(big.NewRat(1, 1), x.Add(x, x)).RatString()))
	}
	clubs, e := League(lists(l...))
	checkBoth(t, "the sum", clubs, e, []Club{{"a", "85"}}, api.OK)
}

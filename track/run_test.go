package track

import (
	"math/big"
	"math/rand"
	"slices"
	"testing"

	"stadion/api"
)

func TestCheckRun(t *testing.T) {
	for _, x := range []struct {
		what   string
		change func(l []Exchange)
		finish int
		at     int
		want   api.Errno
	}{
		{"the example", func(l []Exchange) {}, 420000, 0, api.OK},
		{"the finish just behind", func(l []Exchange) {}, 320001, 0, api.OK},
		{"the finish with the last exchange", func(l []Exchange) {}, 320000, 2, api.ErrOrder},
		{"the finish ahead of the last exchange", func(l []Exchange) {}, 1, 2, api.ErrOrder},
		{"the first place of a zone", func(l []Exchange) { l[1].Place = 180000 }, 420000, 0, api.OK},
		{"the last place of a zone", func(l []Exchange) { l[1].Place = 210000 }, 420000, 0, api.OK},
		{"ahead of a zone", func(l []Exchange) { l[1].Place = 179999 }, 420000, 1, api.ErrRule},
		{"behind a zone", func(l []Exchange) { l[1].Place = 210001 }, 420000, 1, api.ErrRule},
		{"ahead of the first zone", func(l []Exchange) { l[0].Place = 79999 }, 420000, 0, api.ErrRule},
		{"behind the last zone", func(l []Exchange) { l[2].Place = 310001 }, 420000, 2, api.ErrRule},
		{"in the zone before", func(l []Exchange) { l[1].Place = 95001 }, 420000, 1, api.ErrRule},
		{"in the zone behind", func(l []Exchange) { l[1].Place = 290000 }, 420000, 1, api.ErrRule},
		{"the same place", func(l []Exchange) { l[1].Place = 95000 }, 420000, 1, api.ErrOrder},
		{"a place before", func(l []Exchange) { l[2].Place = 199999 }, 420000, 2, api.ErrOrder},
		{"the same time", func(l []Exchange) { l[2].Time = 210000 }, 420000, 2, api.ErrOrder},
		{"a time before", func(l []Exchange) { l[1].Time = 109999 }, 420000, 1, api.ErrOrder},
		{"a time just behind", func(l []Exchange) { l[1].Time = 110001 }, 420000, 0, api.OK},
		{"the first time at once", func(l []Exchange) { l[0].Time = 1 }, 420000, 0, api.OK},
		{"the first time 0", func(l []Exchange) { l[0].Time = 0 }, 420000, 0, api.ErrRange},
		{"a place of no track", func(l []Exchange) { l[1].Place = -1 }, 420000, 1, api.ErrRange},
		{"a wrong order, then a wrong number", func(l []Exchange) { l[1].Time, l[2].Place = 1, -1 }, 420000, 1, api.ErrOrder},
		{"no place in a zone, then a wrong number", func(l []Exchange) { l[0].Place, l[1].Time = 1, 0 }, 420000, 0, api.ErrRule},
		{"an exchange ahead of the finish", func(l []Exchange) { l[1].Place = 210001 }, 1, 1, api.ErrRule},
	} {
		l := run()
		x.change(l)
		at, e := CheckRun(relay(), l, x.finish)
		check(t, x.what, []any{at, e}, []any{x.at, x.want})
		given := slices.Clone(l)
		legs, e := Legs(relay(), l, x.finish)
		check(t, "Legs, "+x.what, e, x.want)
		splits, e := Splits(relay(), l, x.finish)
		check(t, "Splits, "+x.what, e, x.want)
		check(t, "the argument", l, given)
		if e != api.OK {
			checkNothing(t, "Legs", legs)
			checkNothing(t, "Splits", splits)
		}
	}
}

func TestErrorsOfCheckRun(t *testing.T) {
	checkOfRelay(t, "CheckRun", func(r Relay) (any, api.Errno) { return CheckRun(r, nil, 0) })
	for _, x := range []struct {
		what   string
		l      []Exchange
		finish int
		want   api.Errno
	}{
		{"no exchanges", nil, 0, api.ErrShape},
		{"an exchange less", run()[:2], 420000, api.ErrShape},
		{"an exchange more", append(run(), Exchange{310000, 330000}), 420000, api.ErrShape},
		{"a wrong finish ahead of a wrong exchange", make([]Exchange, 3), 0, api.ErrRange},
	} {
		at, e := CheckRun(relay(), x.l, x.finish)
		check(t, x.what, []any{at, e}, []any{0, x.want})
	}
	checkRange(t, "a finish", 1, 863999999, api.ErrRange, func(n int) (any, api.Errno) {
		at, e := CheckRun(relay(), run(), n)
		if e == api.ErrOrder {
			return 0, api.OK
		}
		return at, e
	})
	for i := range 3 {
		for what, field := range map[string]struct {
			least, greatest int
			of              func(x *Exchange) *int
		}{
			"a place": {0, 999999999, func(x *Exchange) *int { return &x.Place }},
			"a time":  {1, 863999999, func(x *Exchange) *int { return &x.Time }},
		} {
			checkRange(t, what, field.least, field.greatest, api.ErrRange, func(n int) (any, api.Errno) {
				l := run()
				*field.of(&l[i]) = n
				at, e := CheckRun(relay(), l, 863999999)
				if e == api.ErrRange {
					check(t, what+", its exchange", at, i)
				}
				return nil, ignored(ignored(e, api.ErrOrder), api.ErrRule)
			})
		}
	}
	climb(t, "a run", []Exchange{{95000, 5}, {-1, 0}, {310000, 11}}, func(l []Exchange) api.Errno {
		_, e := CheckRun(relay(), l, 11)
		return e
	},
		rung[[]Exchange]{api.ErrRange, func(l *[]Exchange) { (*l)[1].Place = 7 }},
		rung[[]Exchange]{api.ErrRange, func(l *[]Exchange) { (*l)[1].Time = 5 }},
		rung[[]Exchange]{api.ErrOrder, func(l *[]Exchange) { (*l)[1].Time = 6 }},
		rung[[]Exchange]{api.ErrOrder, func(l *[]Exchange) { (*l)[1].Place = 95001 }},
		rung[[]Exchange]{api.ErrRule, func(l *[]Exchange) { (*l)[1].Place = 180000 }},
		rung[[]Exchange]{api.ErrOrder, func(l *[]Exchange) { (*l)[2].Time = 10 }},
	)
	checkOfRelay(t, "Legs", func(r Relay) (any, api.Errno) { return Legs(r, nil, 0) })
	checkOfRelay(t, "Splits", func(r Relay) (any, api.Errno) { return Splits(r, nil, 0) })
}

func TestLegs(t *testing.T) {
	for _, x := range []struct {
		r      Relay
		l      []Exchange
		finish int
		legs   []int
		splits []api.Rat
	}{
		{relay(), run(), 420000, []int{110000, 100000, 110000, 100000}, []api.Rat{"19/22", "21/20", "1", "9/10"}},
		{Relay{[]int{5, 5}, 5, 5}, []Exchange{{0, 7}}, 8, []int{7, 1}, []api.Rat{"0", "10"}},
		{Relay{[]int{5, 5}, 5, 0}, []Exchange{{10, 4}}, 863999999, []int{4, 863999995}, []api.Rat{"5/2", "0"}},
		{Relay{[]int{7, 11, 5, 4}, 3, 1}, []Exchange{{6, 1}, {20, 3}, {22, 7}}, 13, []int{1, 2, 4, 6}, []api.Rat{"6", "7", "1/2", "5/6"}},
	} {
		at, e := CheckRun(x.r, x.l, x.finish)
		check(t, "CheckRun", []any{at, e}, []any{0, api.OK})
		legs, e := Legs(x.r, x.l, x.finish)
		check(t, "the times", legs, x.legs)
		check(t, "Legs", e, api.OK)
		splits, e := Splits(x.r, x.l, x.finish)
		check(t, "the speeds", splits, x.splits)
		check(t, "Splits", e, api.OK)
	}
}

// randomRelay returns a relay with zones that fit.
func randomRelay(r *rand.Rand) Relay {
	x := Relay{Zone: 1 + r.Intn(30)}
	x.Before = r.Intn(x.Zone + 1)
	for range 2 + r.Intn(7) {
		x.Legs = append(x.Legs, x.Zone+1+r.Intn(40))
	}
	return x
}

// randomRun returns a valid run and its finish.
func randomRun(r *rand.Rand, x Relay) ([]Exchange, int) {
	var l []Exchange
	zones, _ := Zones(x)
	time := 0
	for _, zone := range zones {
		time += 1 + r.Intn(50)
		l = append(l, Exchange{zone[0] + r.Intn(x.Zone+1), time})
	}
	return l, time + 1 + r.Intn(50)
}

func TestRandomRunsOfRelays(t *testing.T) {
	r := rand.New(rand.NewSource(8))
	for range 1000 {
		x := randomRelay(r)
		l, finish := randomRun(r, x)
		at, e := CheckRun(x, l, finish)
		check(t, "CheckRun", []any{at, e}, []any{0, api.OK})
		whole := 0
		for _, leg := range x.Legs {
			whole += leg
		}
		moments := append(append([]Exchange{{0, 0}}, l...), Exchange{whole, finish})
		var times []int
		var speeds []api.Rat
		for i := 1; i < len(moments); i++ {
			a, b := moments[i-1], moments[i]
			times = append(times, b.Time-a.Time)
			speeds = append(speeds, textOf(big.NewRat(int64(b.Place-a.Place), int64(b.Time-a.Time))))
		}
		legs, e := Legs(x, l, finish)
		check(t, "the times", legs, times)
		check(t, "Legs", e, api.OK)
		splits, e := Splits(x, l, finish)
		check(t, "the speeds", splits, speeds)
		check(t, "Splits", e, api.OK)
	}
}

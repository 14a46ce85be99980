package track

import (
	"math/rand"
	"testing"

	"stadion/api"
)

func TestCheckHurdles(t *testing.T) {
	for _, x := range []struct {
		what     string
		h        Hurdles
		distance int
		want     api.Errno
	}{
		{"the example", Hurdles{13000, 8500, 10500, 10}, 100000, api.OK},
		{"one hurdle has no gap", Hurdles{1, 5, 1, 1}, 2, api.OK},
		{"the gap of one hurdle", Hurdles{1, 0, 1, 1}, 2, api.ErrRange},
		{"the least numbers", Hurdles{1, 1, 1, 1}, 2, api.OK},
		{"the greatest numbers", Hurdles{999999, 999999, 999999, 64}, 64999935, api.OK},
		{"nothing", Hurdles{}, 0, api.ErrRange},
		{"1 too much", Hurdles{13000, 8500, 10500, 10}, 99999, api.ErrSum},
		{"1 too little", Hurdles{13000, 8500, 10500, 10}, 100001, api.ErrSum},
		{"a gap too much", Hurdles{13000, 8500, 10500, 10}, 108500, api.ErrSum},
		{"the sum ahead", Hurdles{1, 1, 1, 0}, 1, api.ErrRange},
	} {
		check(t, x.what, CheckHurdles(x.h, x.distance), x.want)
	}
	for _, x := range []struct {
		what            string
		least, greatest int
		field           func(h *Hurdles) *int
	}{
		{"First", 1, 999999, func(h *Hurdles) *int { return &h.First }},
		{"Gap", 1, 999999, func(h *Hurdles) *int { return &h.Gap }},
		{"Last", 1, 999999, func(h *Hurdles) *int { return &h.Last }},
		{"Count", 1, 64, func(h *Hurdles) *int { return &h.Count }},
	} {
		for name, f := range map[string]func(h Hurdles) (any, api.Errno){
			"CheckHurdles": func(h Hurdles) (any, api.Errno) { return nil, ignored(CheckHurdles(h, 100000), api.ErrSum) },
			"Places": func(h Hurdles) (any, api.Errno) {
				l, e := Places(h, 100000)
				return l, ignored(e, api.ErrSum)
			},
		} {
			checkRange(t, name+", "+x.what, x.least, x.greatest, api.ErrRange, func(n int) (any, api.Errno) {
				h := Hurdles{13000, 8500, 10500, 9}
				*x.field(&h) = n
				return f(h)
			})
		}
	}
	checkRange(t, "a distance", 1, 999999999, api.ErrRange, func(n int) (any, api.Errno) {
		return nil, ignored(CheckHurdles(Hurdles{13000, 8500, 10500, 10}, n), api.ErrSum)
	})
	climb(t, "hurdles", Hurdles{}, func(h Hurdles) api.Errno { return CheckHurdles(h, 15) },
		rung[Hurdles]{api.ErrRange, func(h *Hurdles) { h.First = 3 }},
		rung[Hurdles]{api.ErrRange, func(h *Hurdles) { h.Gap = 5 }},
		rung[Hurdles]{api.ErrRange, func(h *Hurdles) { h.Last = 2 }},
		rung[Hurdles]{api.ErrRange, func(h *Hurdles) { h.Count = 2 }},
		rung[Hurdles]{api.ErrSum, func(h *Hurdles) { h.Count = 3 }},
	)
}

func TestPlaces(t *testing.T) {
	for _, x := range []struct {
		h        Hurdles
		distance int
		want     []int
	}{
		{Hurdles{13000, 8500, 10500, 3}, 40500, []int{13000, 21500, 30000}},
		{Hurdles{1, 5, 1, 1}, 2, []int{1}},
		{Hurdles{7, 1, 2, 4}, 12, []int{7, 8, 9, 10}},
	} {
		l, e := Places(x.h, x.distance)
		check(t, "the hurdles", l, x.want)
		check(t, "Places", e, api.OK)
	}
}

func TestErrorsOfPlaces(t *testing.T) {
	for _, x := range []struct {
		h        Hurdles
		distance int
		want     api.Errno
	}{
		{Hurdles{1, 1, 1, 1}, 0, api.ErrRange},
		{Hurdles{1, 1, 1, 65}, 66, api.ErrRange},
		{Hurdles{1, 1, 1, 1}, 3, api.ErrSum},
	} {
		l, e := Places(x.h, x.distance)
		check(t, "Places", e, x.want)
		checkNothing(t, "Places", l)
	}
}

// TestRandomHurdles adds up the distances one by one.
func TestRandomHurdles(t *testing.T) {
	r := rand.New(rand.NewSource(6))
	for range 500 {
		h := Hurdles{1 + r.Intn(999999), 1 + r.Intn(999999), 1 + r.Intn(999999), 1 + r.Intn(64)}
		want := []int{h.First}
		for len(want) < h.Count {
			want = append(want, want[len(want)-1]+h.Gap)
		}
		distance := want[len(want)-1] + h.Last
		check(t, "CheckHurdles", CheckHurdles(h, distance), api.OK)
		check(t, "CheckHurdles", CheckHurdles(h, distance+1-2*r.Intn(2)), api.ErrSum)
		l, e := Places(h, distance)
		check(t, "the hurdles", l, want)
		check(t, "Places", e, api.OK)
	}
}

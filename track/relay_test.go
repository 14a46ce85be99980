package track

import (
	"math/rand"
	"testing"

	"stadion/api"
)

func TestCheckRelay(t *testing.T) {
	for _, x := range []struct {
		what string
		r    Relay
		want api.Errno
	}{
		{"the example", relay(), api.OK},
		{"no legs", Relay{nil, 1, 0}, api.ErrShape},
		{"one leg", Relay{[]int{5}, 1, 0}, api.ErrShape},
		{"two legs", Relay{[]int{5, 5}, 1, 0}, api.OK},
		{"eight legs", Relay{[]int{5, 5, 5, 5, 5, 5, 5, 5}, 4, 2}, api.OK},
		{"nine legs", Relay{[]int{5, 5, 5, 5, 5, 5, 5, 5, 5}, 4, 2}, api.ErrShape},
		{"nine wrong legs", Relay{make([]int, 9), 0, -1}, api.ErrShape},
		{"the last leg wrong", Relay{[]int{5, 5, 0}, 1, 0}, api.ErrRange},
		{"zones of a place", Relay{[]int{5, 5}, 1, 1}, api.OK},
		{"Before above Zone", Relay{[]int{5, 5}, 3, 4}, api.ErrRange},
		{"Before as Zone", Relay{[]int{5, 5}, 3, 3}, api.OK},
		{"a zone from 0 on", Relay{[]int{5, 5}, 5, 5}, api.OK},
		{"a zone from below 0 on", Relay{[]int{4, 5}, 5, 5}, api.ErrRule},
		{"a zone up to the end", Relay{[]int{5, 5}, 5, 0}, api.OK},
		{"a zone behind the end", Relay{[]int{5, 4}, 5, 0}, api.ErrRule},
		{"the whole distance as a zone", Relay{[]int{5, 4}, 9, 5}, api.OK},
		{"zones that meet", Relay{[]int{9, 5, 9}, 5, 0}, api.ErrRule},
		{"zones side by side", Relay{[]int{9, 6, 9}, 5, 0}, api.OK},
		{"zones within each other", Relay{[]int{9, 1, 9}, 5, 2}, api.ErrRule},
		{"the last two zones meet", Relay{[]int{9, 9, 9, 5, 9}, 5, 2}, api.ErrRule},
		{"the last zone alone behind the end", Relay{[]int{9, 9, 9, 2}, 5, 2}, api.ErrRule},
		{"the greatest numbers", Relay{[]int{999999, 999999}, 999999, 999999}, api.OK},
		{"legs that are too long for a sum", Relay{[]int{1 << 62, 1 << 62, 1 << 62}, 1, 0}, api.ErrRange},
	} {
		check(t, x.what, CheckRelay(x.r), x.want)
	}
	checkRange(t, "the first leg", 1, 999999, api.ErrRange, func(n int) (any, api.Errno) {
		return nil, CheckRelay(Relay{[]int{n, 999999}, 1, 0})
	})
	checkRange(t, "the last leg", 1, 999999, api.ErrRange, func(n int) (any, api.Errno) {
		return nil, CheckRelay(Relay{[]int{5, n}, 1, 0})
	})
	checkRange(t, "the zone", 1, 999999, api.ErrRange, func(n int) (any, api.Errno) {
		return nil, CheckRelay(Relay{[]int{5, 999999}, n, 0})
	})
	checkRange(t, "Before", 0, 7, api.ErrRange, func(n int) (any, api.Errno) {
		return nil, CheckRelay(Relay{[]int{9, 9}, 7, n})
	})
	climb(t, "a relay", Relay{[]int{0}, 0, -1}, CheckRelay,
		rung[Relay]{api.ErrShape, func(r *Relay) { r.Legs = []int{3, 1000000, 9} }},
		rung[Relay]{api.ErrRange, func(r *Relay) { r.Legs = []int{3, 1, 9} }},
		rung[Relay]{api.ErrRange, func(r *Relay) { r.Zone = 4 }},
		rung[Relay]{api.ErrRange, func(r *Relay) { r.Before = 4 }},
		rung[Relay]{api.ErrRule, func(r *Relay) { r.Legs = []int{3, 5, 9} }},
		rung[Relay]{api.ErrRule, func(r *Relay) { r.Before = 0 }},
	)
}

// checkOfRelay checks that a function returns the errors of a relay ahead of those of its other arguments, and nothing beside them.
func checkOfRelay(t *testing.T, what string, f func(r Relay) (any, api.Errno)) {
	t.Helper()
	for want, r := range map[api.Errno]Relay{
		api.ErrShape: {[]int{5}, 1, 0},
		api.ErrRange: {[]int{5, 5}, 0, 0},
		api.ErrRule:  {[]int{4, 5}, 5, 5},
	} {
		got, e := f(r)
		check(t, what+" of a wrong relay", e, want)
		checkNothing(t, what, got)
	}
}

func TestZones(t *testing.T) {
	for _, x := range []struct {
		r    Relay
		want [][2]int
	}{
		{relay(), [][2]int{{80000, 110000}, {180000, 210000}, {280000, 310000}}},
		{Relay{[]int{5, 5}, 5, 5}, [][2]int{{0, 5}}},
		{Relay{[]int{9, 6, 9}, 5, 0}, [][2]int{{9, 14}, {15, 20}}},
		{Relay{[]int{7, 11, 5, 4}, 3, 1}, [][2]int{{6, 9}, {17, 20}, {22, 25}}},
	} {
		z, e := Zones(x.r)
		check(t, "the zones", z, x.want)
		check(t, "Zones", e, api.OK)
	}
	checkOfRelay(t, "Zones", func(r Relay) (any, api.Errno) { return Zones(r) })
}

// TestRandomRelays counts for each place of the distance, and some around it, in how many zones it is.
func TestRandomRelays(t *testing.T) {
	r := rand.New(rand.NewSource(7))
	results := map[api.Errno]int{}
	for range 5000 {
		x := Relay{Zone: 1 + r.Intn(8)}
		x.Before = r.Intn(x.Zone + 1)
		for range 2 + r.Intn(4) {
			x.Legs = append(x.Legs, 1+r.Intn(20))
		}
		var zones [][2]int
		end := 0
		for _, leg := range x.Legs {
			end += leg
			zones = append(zones, [2]int{end - x.Before, end - x.Before + x.Zone})
		}
		zones = zones[:len(x.Legs)-1]
		want := api.OK
		for place := -20; place <= end+20; place++ {
			in := 0
			for _, zone := range zones {
				if zone[0] <= place && place <= zone[1] {
					in++
				}
			}
			if in > 1 || in > 0 && (place < 0 || place > end) {
				want = api.ErrRule
			}
		}
		results[want]++
		check(t, "CheckRelay", CheckRelay(x), want)
		if z, e := Zones(x); want == api.OK {
			check(t, "the zones", []any{z, e}, []any{zones, api.OK})
		}
	}
	if results[api.OK] < 500 || results[api.ErrRule] < 500 {
		t.Errorf("the results are %v", results)
	}
}

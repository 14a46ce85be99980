package track

import (
	"math/big"
	"math/rand"
	"strconv"
	"testing"

	"stadion/api"
)

// ends returns both ends of a span, and the number in the middle.
func ends(s api.Span) [3]*big.Rat {
	low, high := numberOf(s.Low), numberOf(s.High)
	middle := new(big.Rat).Add(low, high)
	return [3]*big.Rat{low, middle.Quo(middle, big.NewRat(2, 1)), high}
}

func sum(l ...*big.Rat) *big.Rat {
	all := new(big.Rat)
	for _, x := range l {
		all.Add(all, x)
	}
	return all
}

// checkSums checks for both bounds of pi, and for the number in the middle, that some lengths add up to another one.
func checkSums(t *testing.T, what string, whole api.Span, parts ...api.Span) {
	t.Helper()
	for i, want := range ends(whole) {
		all := new(big.Rat)
		for _, part := range parts {
			all.Add(all, ends(part)[i])
		}
		check(t, what, all, want)
	}
}

func TestStaggersMakeRunsEqual(t *testing.T) {
	r := rand.New(rand.NewSource(10))
	for range 1000 {
		o, a, b := randomOval(r), r.Intn(9), r.Intn(9)
		lane := 1 + r.Intn(o.Lanes)
		inner, _ := Run(o, 1, 0, a)
		outer, _ := Run(o, lane, 0, a)
		stagger, _ := Stagger(o, lane, a)
		checkSums(t, "the run of the lane 1 and the stagger", outer, inner, stagger)
		other, _ := Stagger(o, lane, b)
		both, _ := Stagger(o, lane, a+b)
		checkSums(t, "the staggers of some bends and of others", both, stagger, other)
		longer, _ := Ahead(o, lane, 1, a)
		twice, _ := Stagger(o, lane, 2*a)
		check(t, "the stagger of some laps", twice, longer)
	}
}

func TestStaggersAscend(t *testing.T) {
	r := rand.New(rand.NewSource(11))
	for range 500 {
		o, bends := randomOval(r), r.Intn(17)
		marked, _ := Marked(o, bends)
		errors, _ := Errors(o, bends)
		check(t, "the numbers of lanes", [2]int{len(marked), len(errors)}, [2]int{o.Lanes, o.Lanes})
		before := ends(spanOf("0", "0"))
		for lane := 1; lane <= o.Lanes; lane++ {
			stagger, _ := Stagger(o, lane, bends)
			now := ends(stagger)
			for i := range now {
				// the lanes 1 and 2 may be as long
				if order := now[i].Cmp(before[i]); order < 0 || order == 0 && lane > 2 && bends > 0 {
					t.Errorf("the stagger %v of the lane %d", stagger, lane)
				}
			}
			before = now
			whole := api.Rat(strconv.Itoa(marked[lane-1]))
			checkSums(t, "the marked stagger and its error", stagger, spanOf(whole, whole), errors[lane-1])
			if low := numberOf(errors[lane-1].Low); low.Sign() < 0 || low.Cmp(big.NewRat(1, 1)) >= 0 {
				t.Errorf("the error of the lane %d is %v", lane, errors[lane-1])
			}
		}
	}
}

// TestPlacesTellDistances checks for both bounds that laps, parts and the distance in the part are the distance together.
func TestPlacesTellDistances(t *testing.T) {
	r := rand.New(rand.NewSource(12))
	told := 0
	for range 3000 {
		o := randomOval(r)
		lane, distance := 1+r.Intn(o.Lanes), r.Intn(4*(o.Straight+4*o.Radius))
		w, e := Where(o, lane, distance)
		if e != api.OK {
			continue
		}
		told++
		lap, _ := Lap(o, lane)
		before, _ := Run(o, lane, w.Part/2, (w.Part+1)/2)
		part, _ := Run(o, lane, w.Part%2, 1-w.Part%2)
		laps := big.NewRat(int64(w.Laps), 1)
		at := ends(w.At)
		for i := range at {
			from := sum(new(big.Rat).Mul(laps, ends(lap)[i]), ends(before)[i])
			left := at[len(at)-1-i]
			check(t, "the distance", sum(from, left), big.NewRat(int64(distance), 1))
			if left.Sign() < 0 || left.Cmp(ends(part)[i]) >= 0 {
				t.Errorf("%v is not in its part", w)
			}
		}
	}
	if told < 1000 {
		t.Errorf("%d places are told", told)
	}
}

func TestLegsAddUp(t *testing.T) {
	r := rand.New(rand.NewSource(13))
	for range 1000 {
		x := randomRelay(r)
		l, finish := randomRun(r, x)
		legs, _ := Legs(x, l, finish)
		splits, _ := Splits(x, l, finish)
		check(t, "the numbers of legs", [2]int{len(legs), len(splits)}, [2]int{len(x.Legs), len(x.Legs)})
		time, distance, whole := 0, new(big.Rat), 0
		for i := range legs {
			time += legs[i]
			distance.Add(distance, new(big.Rat).Mul(numberOf(splits[i]), big.NewRat(int64(legs[i]), 1)))
			whole += x.Legs[i]
		}
		check(t, "the times", time, finish)
		check(t, "the distances", distance, big.NewRat(int64(whole), 1))
	}
}

// TestZonesHaveOneExchange moves the exchanges of valid runs.
func TestZonesHaveOneExchange(t *testing.T) {
	r := rand.New(rand.NewSource(14))
	results := map[bool]int{}
	for range 3000 {
		x := randomRelay(r)
		l, finish := randomRun(r, x)
		zones, _ := Zones(x)
		if i := r.Intn(len(l)); r.Intn(2) == 0 {
			l[i].Place = max(0, l[i].Place+r.Intn(61)-30)
		}
		want := true
		for _, zone := range zones {
			in := 0
			for _, exchange := range l {
				if zone[0] <= exchange.Place && exchange.Place <= zone[1] {
					in++
				}
			}
			want = want && in == 1
		}
		results[want]++
		_, e := CheckRun(x, l, finish)
		check(t, "whether each zone has one exchange", e == api.OK, want)
	}
	if results[true] < 500 || results[false] < 500 {
		t.Errorf("the results are %v", results)
	}
}

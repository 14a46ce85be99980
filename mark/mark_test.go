package mark

import (
	"math"
	"slices"
	"strconv"
	"testing"

	"stadion/api"
)

func timeOf(n int) api.Mark   { return api.Mark{Kind: "time", Value: n} }
func lengthOf(n int) api.Mark { return api.Mark{Kind: "length", Value: n} }
func pointsOf(n int) api.Mark { return api.Mark{Kind: "points", Value: n} }
func noneOf(s string) api.Mark {
	return api.Mark{Kind: "none", Reason: s}
}

// wrong has for each error of a mark one with it.
var wrong = map[api.Errno]api.Mark{
	api.ErrKind:  {Kind: "wind", Value: -1, Reason: "DNF"},
	api.ErrForm:  {Kind: "time", Value: 0, Reason: "DNF"},
	api.ErrRange: {Kind: "time", Value: 0},
}

func TestCheckMark(t *testing.T) {
	for _, c := range []struct {
		m api.Mark
		e api.Errno
	}{
		{timeOf(1), api.OK}, {timeOf(863999999), api.OK}, {timeOf(0), api.ErrRange}, {timeOf(-1), api.ErrRange}, {timeOf(864000000), api.ErrRange},
		{lengthOf(0), api.OK}, {lengthOf(999999), api.OK}, {lengthOf(-1), api.ErrRange}, {lengthOf(1000000), api.ErrRange},
		{pointsOf(0), api.OK}, {pointsOf(99999), api.OK}, {pointsOf(-1), api.ErrRange}, {pointsOf(100000), api.ErrRange}, {pointsOf(math.MinInt), api.ErrRange},
		{noneOf("DNS"), api.OK}, {noneOf("DNF"), api.OK}, {noneOf("DQ"), api.OK}, {noneOf("NM"), api.OK},
		{noneOf(""), api.ErrForm}, {noneOf("dnf"), api.ErrForm}, {noneOf("DNFx"), api.ErrForm},
		{api.Mark{Kind: "none", Value: 1, Reason: "DQ"}, api.ErrRange}, {api.Mark{Kind: "none", Value: -1, Reason: "DQ"}, api.ErrRange},
		{api.Mark{Kind: "none", Value: 1}, api.ErrForm},
		{api.Mark{Kind: "time", Value: 1, Reason: "DNF"}, api.ErrForm}, {api.Mark{Kind: "length", Value: -1, Reason: "x"}, api.ErrForm}, {api.Mark{Kind: "points", Reason: "NM"}, api.ErrForm},
		{api.Mark{}, api.ErrKind}, {api.Mark{Kind: "Time", Value: 1}, api.ErrKind},
		{wrong[api.ErrKind], api.ErrKind}, {wrong[api.ErrForm], api.ErrForm}, {wrong[api.ErrRange], api.ErrRange},
	} {
		if e := CheckMark(c.m); e != c.e {
			t.Errorf("CheckMark(%v): got %v, want %v", c.m, e, c.e)
		}
	}
}

func TestCompare(t *testing.T) {
	for _, c := range []struct {
		a, b api.Mark
		want int
		e    api.Errno
	}{
		{timeOf(95800), timeOf(97200), -1, api.OK}, {timeOf(97200), timeOf(95800), 1, api.OK}, {timeOf(5), timeOf(5), 0, api.OK},
		{lengthOf(8950), lengthOf(8900), -1, api.OK}, {lengthOf(0), lengthOf(1), 1, api.OK}, {lengthOf(0), lengthOf(0), 0, api.OK},
		{pointsOf(8000), pointsOf(7999), -1, api.OK}, {pointsOf(0), pointsOf(1), 1, api.OK}, {pointsOf(3), pointsOf(3), 0, api.OK},
		{noneOf("DNF"), noneOf("DQ"), 0, api.OK}, {noneOf("DNF"), lengthOf(0), 1, api.OK}, {timeOf(863999999), noneOf("NM"), -1, api.OK}, {noneOf("NM"), pointsOf(0), 1, api.OK},
		{timeOf(1), lengthOf(1), 0, api.ErrKind}, {pointsOf(1), timeOf(1), 0, api.ErrKind},
		{wrong[api.ErrRange], wrong[api.ErrForm], 0, api.ErrRange}, {wrong[api.ErrForm], wrong[api.ErrKind], 0, api.ErrForm},
		{timeOf(1), wrong[api.ErrKind], 0, api.ErrKind}, {lengthOf(1), wrong[api.ErrRange], 0, api.ErrRange}, {noneOf("DQ"), wrong[api.ErrForm], 0, api.ErrForm},
	} {
		if n, e := Compare(c.a, c.b); n != c.want || e != c.e {
			t.Errorf("Compare(%v, %v): got %v and %v, want %v and %v", c.a, c.b, n, e, c.want, c.e)
		}
	}
}

func TestRound(t *testing.T) {
	for _, c := range []struct {
		m     api.Mark
		class string
		want  api.Mark
		e     api.Errno
	}{
		{timeOf(95801), "hundredths", timeOf(95900), api.OK}, {timeOf(95800), "hundredths", timeOf(95800), api.OK}, {timeOf(95899), "hundredths", timeOf(95900), api.OK}, {timeOf(1), "hundredths", timeOf(100), api.OK},
		{timeOf(95801), "tenths", timeOf(96000), api.OK}, {timeOf(95000), "tenths", timeOf(95000), api.OK}, {timeOf(95801), "exact", timeOf(95801), api.OK},
		{timeOf(863999900), "hundredths", timeOf(863999900), api.OK}, {timeOf(863999901), "hundredths", api.Mark{}, api.ErrLarge}, {timeOf(863999001), "tenths", api.Mark{}, api.ErrLarge}, {timeOf(863999999), "exact", timeOf(863999999), api.OK},
		{lengthOf(8957), "centimetres", lengthOf(8950), api.OK}, {lengthOf(9), "centimetres", lengthOf(0), api.OK}, {lengthOf(999999), "centimetres", lengthOf(999990), api.OK}, {lengthOf(8957), "exact", lengthOf(8957), api.OK},
		{pointsOf(7645), "exact", pointsOf(7645), api.OK},
		{noneOf("DNF"), "hundredths", noneOf("DNF"), api.OK}, {noneOf("NM"), "tenths", noneOf("NM"), api.OK}, {noneOf("DQ"), "centimetres", noneOf("DQ"), api.OK}, {noneOf("DNS"), "exact", noneOf("DNS"), api.OK},
		{lengthOf(8957), "tenths", api.Mark{}, api.ErrKind}, {lengthOf(8957), "hundredths", api.Mark{}, api.ErrKind}, {timeOf(1), "centimetres", api.Mark{}, api.ErrKind}, {pointsOf(1), "tenths", api.Mark{}, api.ErrKind}, {pointsOf(1), "centimetres", api.Mark{}, api.ErrKind},
		{timeOf(1), "", api.Mark{}, api.ErrKind}, {timeOf(1), "time", api.Mark{}, api.ErrKind}, {noneOf("DQ"), "seconds", api.Mark{}, api.ErrKind},
		{wrong[api.ErrForm], "x", api.Mark{}, api.ErrForm}, {wrong[api.ErrRange], "tenths", api.Mark{}, api.ErrRange}, {wrong[api.ErrKind], "exact", api.Mark{}, api.ErrKind},
	} {
		if m, e := Round(c.m, c.class); m != c.want || e != c.e {
			t.Errorf("Round(%v, %q): got %v and %v, want %v and %v", c.m, c.class, m, e, c.want, c.e)
		}
	}
}

func TestWind(t *testing.T) {
	for h, want := range map[int]int{191: 20, -125: -12, 190: 19, 199: 20, 200: 20, 1: 1, 0: 0, -1: 0, -9: 0, -10: -1, -11: -1, 9999: 1000, -9999: -999} {
		if n, e := Wind(h); n != want || e != api.OK {
			t.Errorf("Wind(%d): got %d and %v, want %d", h, n, e, want)
		}
	}
	for _, h := range []int{10000, -10000, math.MaxInt, math.MinInt} {
		if n, e := Wind(h); n != 0 || e != api.ErrRange {
			t.Errorf("Wind(%d): got %d and %v", h, n, e)
		}
	}
	for h := -9999; h <= 9999; h++ {
		if n, _ := Wind(h); 10*n < h || 10*(n-1) >= h {
			t.Errorf("Wind(%d): got %d", h, n)
		}
	}
}

func TestRanks(t *testing.T) {
	dnf := noneOf("DNF")
	for _, c := range []struct {
		what string
		l    []api.Mark
		want []int
		e    api.Errno
	}{
		{"the example", []api.Mark{timeOf(95800), dnf, timeOf(95800), timeOf(97200)}, []int{1, 0, 1, 3}, api.OK},
		{"lengths", []api.Mark{lengthOf(0), lengthOf(8950), dnf, lengthOf(8950), lengthOf(9000), noneOf("NM")}, []int{4, 2, 0, 2, 1, 0}, api.OK},
		{"points", []api.Mark{pointsOf(1), pointsOf(2)}, []int{2, 1}, api.OK},
		{"no marks", nil, nil, api.OK},
		{"none alone", []api.Mark{dnf, noneOf("DQ")}, []int{0, 0}, api.OK},
		{"different kinds", []api.Mark{timeOf(1), dnf, lengthOf(1)}, nil, api.ErrKind},
		{"different kinds ahead of a later mark", []api.Mark{timeOf(1), lengthOf(1), wrong[api.ErrForm]}, nil, api.ErrKind},
		{"an error ahead of different kinds", []api.Mark{timeOf(1), wrong[api.ErrRange], lengthOf(1)}, nil, api.ErrRange},
		{"an error of a mark of a different kind", []api.Mark{timeOf(1), lengthOf(-1)}, nil, api.ErrRange},
		{"a mark of no kind", []api.Mark{dnf, wrong[api.ErrKind]}, nil, api.ErrKind},
		{"too many marks", make([]api.Mark, api.MaxList+1), nil, api.ErrMany},
		{"the most marks", slices.Repeat([]api.Mark{pointsOf(7)}, api.MaxList), slices.Repeat([]int{1}, api.MaxList), api.OK},
	} {
		got, e := Ranks(c.l)
		wantList(t, c.what, got, e, c.want, c.e)
	}
}

// someMarks has marks of a kind near the edges of the classes and of its range, and of the kind none.
func someMarks(kind string, most int) []api.Mark {
	marks := []api.Mark{noneOf("DNS"), noneOf("DNF"), noneOf("DQ"), noneOf("NM")}
	for _, base := range []int{0, 10, 100, 1000, 9990, 10000, 99990, 600000, most - 1999} {
		for _, more := range []int{0, 1, 5, 9, 10, 11, 99, 100, 101, 999, 1000} {
			m := api.Mark{Kind: kind, Value: base + more}
			if CheckMark(m) == api.OK {
				marks = append(marks, m)
			}
		}
	}
	return marks
}

func allMarks() [][]api.Mark {
	return [][]api.Mark{someMarks("time", api.MaxTime), someMarks("length", api.MaxLength), someMarks("points", api.MaxPoints)}
}

func compareOK(t *testing.T, a, b api.Mark) int {
	t.Helper()
	n, e := Compare(a, b)
	if e != api.OK {
		t.Fatalf("Compare(%v, %v): got %v", a, b, e)
	}
	return n
}

func TestBetterIsATotalPreorder(t *testing.T) {
	for _, marks := range allMarks() {
		for _, a := range marks {
			for _, b := range marks {
				n := compareOK(t, a, b)
				if n != -compareOK(t, b, a) {
					t.Fatalf("%v and %v are compared differently", a, b)
				}
				for _, c := range marks {
					if n <= 0 && compareOK(t, b, c) <= 0 && compareOK(t, a, c) > 0 {
						t.Fatalf("%v, %v and %v have no order", a, b, c)
					}
				}
			}
		}
	}
}

func TestRoundingKeepsTheOrder(t *testing.T) {
	for _, marks := range allMarks() {
		for _, class := range []string{"hundredths", "tenths", "centimetres", "exact"} {
			var whole, rounded []api.Mark
			for _, m := range marks {
				r, e := Round(m, class)
				if e != api.OK {
					continue
				}
				whole, rounded = append(whole, m), append(rounded, r)
				if again, e := Round(r, class); again != r || e != api.OK {
					t.Errorf("%v rounded by %s again: got %v", r, class, again)
				}
				if compareOK(t, r, m) < 0 {
					t.Errorf("%v rounded by %s is better: %v", m, class, r)
				}
			}
			for i := range whole {
				for j := range whole {
					if compareOK(t, whole[i], whole[j]) <= 0 && compareOK(t, rounded[i], rounded[j]) > 0 {
						t.Errorf("%v and %v rounded by %s have another order", whole[i], whole[j], class)
					}
				}
			}
		}
	}
}

func TestRanksCountBetterMarks(t *testing.T) {
	for _, marks := range allMarks() {
		ranks, e := Ranks(marks)
		if e != api.OK {
			t.Fatal(strconv.Itoa(int(e)))
		}
		for i, m := range marks {
			want := 1
			for _, other := range marks {
				if compareOK(t, other, m) < 0 {
					want++
				}
			}
			if m.Kind == "none" {
				want = 0
			}
			if ranks[i] != want {
				t.Errorf("the rank of %v: got %d, want %d", m, ranks[i], want)
			}
		}
	}
}

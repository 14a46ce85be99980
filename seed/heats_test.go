package seed

import (
	"testing"

	"stadion/api"
)

func TestZigzag(t *testing.T) {
	for _, x := range []struct {
		n, heats int
		want     [][]int
	}{
		{5, 2, [][]int{{0, 3, 4}, {1, 2}}},
		{8, 3, [][]int{{0, 5, 6}, {1, 4, 7}, {2, 3}}},
		{5, 3, [][]int{{0}, {1, 4}, {2, 3}}},
		{6, 1, [][]int{{0, 1, 2, 3, 4, 5}}},
		{3, 3, [][]int{{0}, {1}, {2}}},
		{2, 4, [][]int{{0}, {1}, nil, nil}},
		{0, 2, [][]int{nil, nil}},
		{0, 1, [][]int{nil}},
		{18, 16, [][]int{{0}, {1}, {2}, {3}, {4}, {5}, {6}, {7}, {8}, {9}, {10}, {11}, {12}, {13}, {14, 17}, {15, 16}}},
	} {
		l, e := Zigzag(x.n, x.heats)
		check(t, "Zigzag", l, x.want)
		check(t, "Zigzag", e, api.OK)
	}
	l, _ := Zigzag(160, 16)
	check(t, "the last heat", l[15], []int{15, 16, 47, 48, 79, 80, 111, 112, 143, 144})
}

func TestErrorsOfZigzag(t *testing.T) {
	for _, x := range around(0, 160) {
		l, e := Zigzag(x.n, 3)
		check(t, "a number of ranks", e, x.want)
		if e != api.OK {
			checkNothing(t, "Zigzag", l)
		}
	}
	for _, x := range around(1, 16) {
		l, e := Zigzag(5, x.n)
		check(t, "a number of heats", e, x.want)
		if e != api.OK {
			checkNothing(t, "Zigzag", l)
		}
	}
}

func TestHeats(t *testing.T) {
	for _, x := range []struct {
		l          []Entrant
		heats, key int
		want       [][]int
	}{
		{example(), 2, 1, [][]int{{1, 0, 3}, {4, 2}}},
		{example(), 1, 1, [][]int{{1, 4, 2, 0, 3}}},
		{example(), 3, 7, [][]int{{1}, {4, 3}, {2, 0}}},
		{example(), 7, 7, [][]int{{1}, {4}, {2}, {0}, {3}, nil, nil}},
		{nil, 2, 1, [][]int{nil, nil}},
	} {
		l, e := Heats(x.l, x.heats, x.key)
		check(t, "Heats", l, x.want)
		check(t, "Heats", e, api.OK)
	}
	equal := field(3, 1)
	for i := range equal {
		equal[i].Mark = noMark("NM")
	}
	l, _ := Heats(equal, 2, 1)
	check(t, "drawn heats", l, [][]int{{2}, {1, 0}})
}

// checkKeys checks the errors of the key of a function.
func checkKeys(t *testing.T, what string, f func(key int) (any, api.Errno)) {
	t.Helper()
	for _, x := range around(1, 2147483646) {
		got, e := f(x.n)
		check(t, what+" by a key", e, x.want)
		if e != api.OK {
			checkNothing(t, what, got)
		}
	}
}

// checkCounts checks the errors of the number of heats of a function.
func checkCounts(t *testing.T, what string, f func(heats int) (any, api.Errno)) {
	t.Helper()
	for _, x := range around(1, 16) {
		got, e := f(x.n)
		check(t, what+" in heats", e, x.want)
		if e != api.OK {
			checkNothing(t, what, got)
		}
	}
}

func TestErrorsOfHeats(t *testing.T) {
	checkOfEntrants(t, "Heats", func(l []Entrant) (any, api.Errno) { return Heats(l, 0, 0) })
	checkCounts(t, "Heats", func(heats int) (any, api.Errno) { return Heats(example(), heats, 1) })
	checkKeys(t, "Heats", func(key int) (any, api.Errno) { return Heats(example(), 16, key) })
	checkKeys(t, "Heats of nobody", func(key int) (any, api.Errno) { return Heats(nil, 2, key) })
}

func TestMemoryOfHeats(t *testing.T) {
	l := example()
	heats, _ := Heats(l, 2, 1)
	check(t, "the argument", l, example())
	_ = append(heats[0], 9)
	heats[0][0] = 9
	check(t, "the other heat", heats[1], []int{4, 2})
	ranks, _ := Zigzag(5, 2)
	_ = append(ranks[0], 9)
	check(t, "the other ranks", ranks[1], []int{1, 2})
}

func TestCheckHeats(t *testing.T) {
	for _, x := range []struct {
		what  string
		heats [][]int
		want  api.Errno
	}{
		{"zigzag", [][]int{{1, 0, 3}, {4, 2}}, api.OK},
		{"in any order", [][]int{{0, 3, 1}, {2, 4}}, api.OK},
		{"other heats", [][]int{{1, 2, 3}, {4, 0}}, api.OK},
		{"the other way round", [][]int{{4, 0}, {1, 2, 3}}, api.OK},
		{"the last one alone", [][]int{{1, 0}, {4, 2, 3}}, api.OK},
		{"the best two together", [][]int{{1, 4, 3}, {2, 0}}, api.ErrConflict},
		{"the next two together", [][]int{{1, 2, 0}, {4, 3}}, api.ErrConflict},
		{"one heat", [][]int{{0, 1, 2, 3, 4}}, api.OK},
		{"one heat, the other one empty", [][]int{{0, 1, 2, 3, 4}, nil}, api.ErrConflict},
		{"three heats", [][]int{{1, 0}, {2, 3}, {4}}, api.OK},
		{"three heats, two of a last group together", [][]int{{1, 0, 3}, {2}, {4}}, api.ErrConflict},
		{"five heats", [][]int{{0}, {1}, {2}, {3}, {4}}, api.OK},
		{"six heats", [][]int{{0}, {1}, nil, {2}, {3}, {4}}, api.OK},
		{"six heats, two together", [][]int{{0}, {1, 4}, nil, {2}, {3}, nil}, api.ErrConflict},
		{"no heats", nil, api.ErrEmpty},
		{"16 heats", append(make([][]int, 11), [][]int{{0}, {1}, {2}, {3}, {4}}...), api.OK},
		{"17 heats", append(make([][]int, 12), [][]int{{0}, {1}, {2}, {3}, {4}}...), api.ErrMany},
		{"17 empty heats", make([][]int, 17), api.ErrMany},
		{"an entrant too great", [][]int{{0, 1, 2, 3, 5}}, api.ErrUnknown},
		{"an entrant too low", [][]int{{0, 1, 2}, {-1, 4}}, api.ErrUnknown},
		{"an entrant far too great", [][]int{{1<<63 - 1}}, api.ErrUnknown},
		{"an entrant twice in a heat", [][]int{{0, 1, 0}, {2, 3, 4}}, api.ErrTwice},
		{"an entrant in two heats", [][]int{{0, 1, 2}, {3, 4, 0}}, api.ErrTwice},
		{"twice, then unknown", [][]int{{0, 0}, {7}}, api.ErrTwice},
		{"unknown, then twice", [][]int{{7, 0}, {0}}, api.ErrUnknown},
		{"the first one is missing", [][]int{{1, 2}, {3, 4}}, api.ErrNone},
		{"the last one is missing", [][]int{{1, 2}, {3, 0}}, api.ErrNone},
		{"missing, then not ranked", [][]int{{1, 4}, {0}}, api.ErrNone},
		{"empty heats", [][]int{nil, nil}, api.ErrNone},
	} {
		check(t, "CheckHeats, "+x.what, CheckHeats(example(), 3, x.heats), x.want)
		n, e := Clashes(example(), x.heats)
		if want := x.want; want == api.ErrConflict {
			check(t, "Clashes, "+x.what, e, api.OK)
		} else {
			check(t, "Clashes, "+x.what, e, want)
		}
		if e != api.OK {
			checkNothing(t, "Clashes, "+x.what, n)
		}
	}
	check(t, "nobody", CheckHeats(nil, 3, make([][]int, 16)), api.OK)
}

func TestCheckHeatsByKey(t *testing.T) {
	equal := field(4, 1)
	for i := range equal {
		equal[i].Mark = noMark("NM")
	}
	different := 0
	for key := 1; key <= 20; key++ {
		order, _ := Order(equal, key)
		if order[0]+order[1] == 1 || order[2]+order[3] == 1 { // 0 and 1 are of one group
			check(t, "in one heat", CheckHeats(equal, key, [][]int{{0, 1}, {2, 3}}), api.ErrConflict)
			different |= 1
		} else {
			check(t, "in different groups", CheckHeats(equal, key, [][]int{{0, 1}, {2, 3}}), api.OK)
			different |= 2
		}
	}
	check(t, "both ways", different, 3)
}

func TestErrorsOfCheckHeats(t *testing.T) {
	checkOfEntrants(t, "CheckHeats", func(l []Entrant) (any, api.Errno) { return nil, CheckHeats(l, 0, nil) })
	checkKeys(t, "CheckHeats", func(key int) (any, api.Errno) {
		return nil, CheckHeats(example(), key, [][]int{{1, 0, 3}, {4, 2}})
	})
	check(t, "the key ahead of the heats", CheckHeats(example(), 0, nil), api.ErrRange)
}

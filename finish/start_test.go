package finish

import (
	"testing"

	"stadion/api"
)

func TestReaction(t *testing.T) {
	for _, x := range []struct {
		what            string
		samples         []int
		step, threshold int
		want            int
	}{
		{"the example", []int{0, 5, 30, 80}, 400, 20, 800},
		{"just above", []int{0, 5, 30, 80}, 400, 29, 800},
		{"not above", []int{0, 5, 30, 80}, 400, 30, 1200},
		{"at once", []int{7, 8}, 1, 0, 0},
		{"not at 0", []int{0, 0, 1}, 1, 0, 2},
		{"the first one of some", []int{1, 9, 2, 9}, 10, 5, 10},
		{"the greatest force", []int{999999998, 999999999}, 10, 999999998, 10},
		{"the last sample", append(make([]int, 999), 1), 10000, 0, 9990000},
	} {
		n, e := Reaction(x.samples, x.step, x.threshold)
		check(t, x.what, n, x.want)
		check(t, x.what, e, api.OK)
	}
}

func TestErrorsOfReaction(t *testing.T) {
	for _, x := range []struct {
		what            string
		samples         []int
		step, threshold int
		want            api.Errno
	}{
		{"1001 samples", make([]int, 1001), 1, 1, api.ErrMany},
		{"1001 wrong samples", repeated(-1, 1001), 0, -1, api.ErrMany},
		{"1000 samples, none above", make([]int, 1000), 1, 0, api.ErrNone},
		{"no samples", nil, 400, 0, api.ErrNone},
		{"none above", []int{0, 5, 30, 80}, 400, 80, api.ErrNone},
		{"a sample below 0 behind the reaction", []int{9, -1}, 400, 0, api.ErrRange},
		{"a wrong step of no samples", nil, 0, 0, api.ErrRange},
		{"a wrong threshold of no samples", nil, 1, -1, api.ErrRange},
		{"a wrong step, none above", []int{1}, 10001, 1, api.ErrRange},
	} {
		n, e := Reaction(x.samples, x.step, x.threshold)
		check(t, x.what, e, x.want)
		checkNothing(t, x.what, n)
	}
	checkRange(t, "a sample", 0, 999999999, func(n int) (any, api.Errno) { return Reaction([]int{7, n}, 1, 0) })
	checkRange(t, "a step", 1, 10000, func(n int) (any, api.Errno) { return Reaction([]int{0, 7}, n, 0) })
	checkRange(t, "a threshold", 0, 999999999, func(n int) (any, api.Errno) {
		at, e := Reaction([]int{999999999}, 1, n)
		return at, ignored(e, api.ErrNone)
	})
}

func TestFalseStarts(t *testing.T) {
	check(t, "the limit", Limit, 1000)
	for _, x := range []struct {
		what      string
		reactions []int
		want      []int
	}{
		{"no lanes", nil, nil},
		{"the example", []int{800, 1000, -1}, []int{1}},
		{"just below the limit", []int{999, 1000, 1001}, []int{1}},
		{"at 0", []int{-1, 0}, []int{2}},
		{"nobody has run", repeated(-1, 10), nil},
		{"all", make([]int, 10), []int{1, 2, 3, 4, 5, 6, 7, 8, 9, 10}},
		{"the last lane", append(repeated(1500, 9), 1), []int{10}},
		{"far too late", []int{863999999}, nil},
	} {
		l, e := FalseStarts(x.reactions)
		check(t, x.what, l, x.want)
		check(t, x.what, e, api.OK)
	}
}

func TestErrorsOfFalseStarts(t *testing.T) {
	for what, x := range map[string]struct {
		reactions []int
		want      api.Errno
	}{
		"11 lanes":                     {make([]int, 11), api.ErrMany},
		"11 wrong lanes":               {repeated(-2, 11), api.ErrMany},
		"10 lanes, the last one wrong": {append(make([]int, 9), -2), api.ErrRange},
	} {
		l, e := FalseStarts(x.reactions)
		check(t, what, e, x.want)
		checkNothing(t, what, l)
	}
	checkRange(t, "a reaction", -1, 863999999, func(n int) (any, api.Errno) { return FalseStarts([]int{n}) })
	checkRange(t, "a reaction behind", -1, 863999999, func(n int) (any, api.Errno) { return FalseStarts([]int{5, n}) })
}

package seed

import (
	"testing"

	"stadion/api"
	"stadion/mark"
)

func TestCheckPattern(t *testing.T) {
	for _, x := range []struct {
		what string
		p    [][]int
		want api.Errno
	}{
		{"the example", [][]int{{3, 4}, {2, 5}}, api.OK},
		{"one lane", [][]int{{1}}, api.OK},
		{"the last lane", [][]int{{10}}, api.OK},
		{"ten groups", [][]int{{10}, {9}, {8}, {7}, {6}, {5}, {4}, {3}, {2}, {1}}, api.OK},
		{"one group", [][]int{{10, 9, 8, 7, 6, 5, 4, 3, 2, 1}}, api.OK},
		{"no groups", nil, api.ErrEmpty},
		{"eleven groups", [][]int{{10}, {9}, {8}, {7}, {6}, {5}, {4}, {3}, {2}, {1}, {1}}, api.ErrMany},
		{"eleven empty groups", make([][]int, 11), api.ErrMany},
		{"an empty group in front", [][]int{nil, {3}}, api.ErrEmpty},
		{"an empty group behind", [][]int{{3}, nil}, api.ErrEmpty},
		{"no lane", [][]int{{0}}, api.ErrLane},
		{"a lane too great", [][]int{{1, 11}}, api.ErrLane},
		{"a lane too low", [][]int{{1}, {2, -1}}, api.ErrLane},
		{"lanes far away", [][]int{{1<<63 - 1}}, api.ErrLane},
		{"a lane twice in a group", [][]int{{3, 4, 3}}, api.ErrLane},
		{"a lane in two groups", [][]int{{3, 4}, {5, 4}}, api.ErrLane},
		{"a wrong lane, then an empty group", [][]int{{11}, nil}, api.ErrLane},
		{"an empty group, then a wrong lane", [][]int{nil, {11}}, api.ErrEmpty},
	} {
		check(t, x.what, CheckPattern(x.p), x.want)
		l, e := Lanes(x.p, -1, 0)
		if x.want != api.OK {
			check(t, "Lanes, "+x.what, e, x.want)
		} else {
			check(t, "Lanes, "+x.what, e, api.ErrRange)
		}
		checkNothing(t, "Lanes, "+x.what, l)
	}
}

func TestLanes(t *testing.T) {
	for _, x := range []struct {
		what          string
		p             [][]int
		athletes, key int
		want          []int
	}{
		// the drawn order of 3 elements is 2, 1, 0 by the key 1, and 1, 2, 0 by the key 2
		{"all", [][]int{{4, 5, 6}, {7}}, 4, 1, []int{6, 5, 4, 7}},
		{"some of a group", [][]int{{4, 5, 6}, {7}}, 2, 1, []int{6, 5}},
		{"some of two groups", [][]int{{4, 5, 6}, {7, 8, 9}}, 5, 1, []int{6, 5, 4, 8, 9}},
		{"two groups", [][]int{{4, 5, 6}, {7, 8, 9}}, 6, 1, []int{6, 5, 4, 8, 9, 7}},
		{"another key", [][]int{{4, 5, 6}, {7}}, 4, 2, []int{5, 6, 4, 7}},
		{"nobody", [][]int{{4, 5, 6}, {7}}, 0, 1, nil},
		{"one", [][]int{{8}, {4, 5}}, 1, 1, []int{8}},
		{"a great key", [][]int{{8}, {4}}, 2, 2147483645, []int{8, 4}},
		{"the greatest key", [][]int{{8}}, 1, 2147483646, []int{8}},
	} {
		l, e := Lanes(x.p, x.athletes, x.key)
		check(t, x.what, l, x.want)
		check(t, x.what, e, api.OK)
	}
	all := [][]int{{10, 9, 8, 7, 6, 5, 4, 3, 2, 1}}
	order, _ := mark.Draw(77, 10)
	l, _ := Lanes(all, 10, 77)
	for i, lane := range l {
		check(t, "a lane of ten", lane, all[0][order[i]])
	}
}

// TestLanesOfExample checks that the best two have the lanes 3 and 4, in each order by some key.
func TestLanesOfExample(t *testing.T) {
	orders := map[[2]int]bool{}
	for key := 1; key <= 50; key++ {
		l, e := Lanes([][]int{{3, 4}, {2, 5}}, 4, key)
		check(t, "the error", e, api.OK)
		check(t, "the best two", l[0]+l[1], 7)
		check(t, "the best two", l[0]*l[1], 12)
		check(t, "the next two", l[2]*l[3], 10)
		orders[[2]int(l[:2])], orders[[2]int(l[2:])] = true, true
	}
	check(t, "all orders", len(orders), 4)
}

func TestErrorsOfLanes(t *testing.T) {
	for _, x := range around(0, 160) {
		want := x.want
		if x.n == 160 {
			want = api.ErrLane
		}
		l, e := Lanes([][]int{{3, 4}, {2, 5}}, x.n, 1)
		check(t, "athletes", e, want)
		checkNothing(t, "Lanes", l)
	}
	for _, x := range []struct {
		what          string
		p             [][]int
		athletes, key int
		want          api.Errno
	}{
		{"as many as lanes", [][]int{{3, 4}, {2}}, 3, 1, api.OK},
		{"one too many", [][]int{{3, 4}, {2}}, 4, 1, api.ErrLane},
		{"the athletes ahead of the key", [][]int{{3}}, 161, 0, api.ErrRange},
		{"the key ahead of the lanes", [][]int{{3}}, 2, 0, api.ErrRange},
		{"the key 0", [][]int{{3}, {4}}, 0, 0, api.ErrRange},
		{"a key below 0, with which a later group has one", [][]int{{3}, {4}, {5}}, 0, -1, api.ErrRange},
		{"the key too great", [][]int{{3}}, 0, 2147483647, api.ErrRange},
		{"the key too great for the last group alone", [][]int{{3}, {4}}, 1, 2147483646, api.ErrRange},
		{"the key too great for the last group, ahead of the lanes", [][]int{{3}, {4}}, 3, 2147483646, api.ErrRange},
		{"the key just great enough", [][]int{{3}, {4}, {5}}, 3, 2147483644, api.OK},
		{"the greatest integer", [][]int{{3}, {4}, {5}}, 3, 1<<63 - 1, api.ErrRange},
		{"the least integer", [][]int{{3}, {4}, {5}}, 3, -1 << 63, api.ErrRange},
	} {
		l, e := Lanes(x.p, x.athletes, x.key)
		check(t, x.what, e, x.want)
		if e != api.OK {
			checkNothing(t, x.what, l)
		}
	}
}

func TestMemoryOfLanes(t *testing.T) {
	p := [][]int{{4, 5, 6}, {7}}
	l, _ := Lanes(p, 4, 1)
	clear(l)
	check(t, "the argument", p, [][]int{{4, 5, 6}, {7}})
	again, _ := Lanes(p, 4, 1)
	check(t, "another call", again, []int{6, 5, 4, 7})
}

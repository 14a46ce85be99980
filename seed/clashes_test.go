package seed

import (
	"testing"

	"stadion/api"
)

func TestClashes(t *testing.T) {
	for _, x := range []struct {
		l     []Entrant
		heats [][]int
		want  int
	}{
		{example(), [][]int{{1, 0, 3}, {4, 2}}, 1},
		{example(), [][]int{{1, 2, 3}, {4, 0}}, 2},
		{example(), [][]int{{3, 2, 1}, {0, 4}}, 2},
		{example(), [][]int{{1, 4, 3}, {2, 0}}, 1},
		{example(), [][]int{{0, 1, 2, 3, 4}}, 4},
		{example(), [][]int{{0, 1, 4}, {2, 3}}, 4},
		{example(), [][]int{nil, {0, 1, 4, 2}, {3}}, 3},
		{example(), [][]int{{1, 3}, {4, 2}, {0}}, 0},
		{nil, [][]int{nil, nil}, 0},
		{field(4, 1), [][]int{{0, 1, 2, 3}}, 6},
		{field(160, 1), [][]int{numbers(160)}, 12720},
		{field(160, 160), [][]int{numbers(160)}, 0},
	} {
		n, e := Clashes(x.l, x.heats)
		check(t, "Clashes", n, x.want)
		check(t, "Clashes", e, api.OK)
	}
}

// numbers returns the numbers from 0 on.
func numbers(n int) []int {
	l := make([]int, n)
	for i := range l {
		l[i] = i
	}
	return l
}

func TestErrorsOfClashes(t *testing.T) {
	checkOfEntrants(t, "Clashes", func(l []Entrant) (any, api.Errno) { return Clashes(l, nil) })
}

func TestLeast(t *testing.T) {
	for _, x := range []struct {
		what  string
		l     []Entrant
		heats int
		want  int
	}{
		{"the example", example(), 1, 4},
		{"the example", example(), 2, 1},
		{"the example", example(), 3, 0},
		{"the example", example(), 16, 0},
		{"nobody", nil, 1, 0},
		{"one club", field(7, 1), 3, 5},
		{"one club, equal heats", field(6, 1), 3, 3},
		{"as many as heats", field(3, 1), 3, 0},
		{"one more than heats", field(4, 1), 3, 1},
		{"two clubs", field(10, 2), 3, 4},
		{"clubs of one", field(160, 160), 1, 0},
		{"all of one club", field(160, 1), 16, 720},
		{"all of one club in one heat", field(160, 1), 1, 12720},
	} {
		n, e := Least(x.l, x.heats)
		check(t, x.what, n, x.want)
		check(t, x.what, e, api.OK)
	}
}

func TestErrorsOfLeast(t *testing.T) {
	checkOfEntrants(t, "Least", func(l []Entrant) (any, api.Errno) { return Least(l, 0) })
	checkCounts(t, "Least", func(heats int) (any, api.Errno) { return Least(field(3, 1), heats) })
}

// checkApart checks that heats are ranked and have the least number of clashes.
func checkApart(t *testing.T, what string, l []Entrant, heats, key int) {
	t.Helper()
	apart, e := Apart(l, heats, key)
	check(t, what+", the error", e, api.OK)
	check(t, what+", the number of heats", len(apart), heats)
	check(t, what+", the heats", CheckHeats(l, key, apart), api.OK)
	clashes, e := Clashes(l, apart)
	check(t, what+", the clashes", e, api.OK)
	least, _ := Least(l, heats)
	check(t, what+", the least number", clashes, least)
}

func TestApart(t *testing.T) {
	for heats := 1; heats <= 16; heats++ {
		checkApart(t, "the example", example(), heats, 3)
		checkApart(t, "nobody", nil, heats, 3)
		for _, n := range []int{1, 15, 16, 17, 33, 100, 159, 160} {
			for _, clubs := range []int{1, 2, 3, 7, 16, 160} {
				checkApart(t, "a field", field(n, clubs), heats, 3)
			}
		}
	}
}

// TestApartFromTeammates has the best ones of each club beside each other, where zigzag puts many of them together.
func TestApartFromTeammates(t *testing.T) {
	four := []Entrant{{"a", "red", timeOf(1)}, {"b", "blue", timeOf(2)}, {"c", "blue", timeOf(3)}, {"d", "red", timeOf(4)}}
	zigzag, _ := Heats(four, 2, 1)
	n, _ := Clashes(four, zigzag)
	check(t, "by zigzag", n, 2)
	checkApart(t, "four", four, 2, 1)
	n, _ = Least(four, 2)
	check(t, "apart", n, 0)
	for _, size := range []int{2, 3, 5, 8, 10} {
		l := field(160, 160)
		for i := range l {
			l[i].Club = numbered(160)[i/size]
		}
		for heats := 1; heats <= 16; heats++ {
			checkApart(t, "clubs in a row", l, heats, 1)
		}
	}
}

func TestErrorsOfApart(t *testing.T) {
	checkOfEntrants(t, "Apart", func(l []Entrant) (any, api.Errno) { return Apart(l, 0, 0) })
	checkCounts(t, "Apart", func(heats int) (any, api.Errno) { return Apart(example(), heats, 1) })
	checkKeys(t, "Apart", func(key int) (any, api.Errno) { return Apart(example(), 16, key) })
	checkKeys(t, "Apart of nobody", func(key int) (any, api.Errno) { return Apart(nil, 2, key) })
}

func TestMemoryOfApart(t *testing.T) {
	l := field(12, 3)
	heats, _ := Apart(l, 4, 1)
	check(t, "the argument", l, field(12, 3))
	before, _ := Apart(l, 4, 1)
	for i := range heats {
		_ = append(heats[i], 99)
		heats[i] = nil
	}
	check(t, "the result", CheckHeats(l, 1, before), api.OK)
	for i := range before {
		_ = append(before[i], 99)
	}
	check(t, "the result that is written behind", CheckHeats(l, 1, before), api.OK)
}

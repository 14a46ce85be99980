package field

import (
	"strconv"
	"strings"
	"testing"

	"stadion/api"
)

func contest(names string, trials, finalists, more int) Contest {
	return Contest{Athletes: strings.Fields(names), Trials: trials, Finalists: finalists, More: more}
}

// checkOfAthletes checks the errors of athletes.
func checkOfAthletes(t *testing.T, what string, e func(l []string) api.Errno) {
	t.Helper()
	for _, x := range []struct {
		what string
		l    []string
		want api.Errno
	}{
		{"one", []string{"a"}, api.OK},
		{"as many as possible", names(32), api.OK},
		{"none", nil, api.ErrEmpty},
		{"one too many", names(33), api.ErrMany},
		{"one too many, without names", make([]string, 33), api.ErrMany},
		{"no name", []string{"ann", ""}, api.ErrName},
		{"a digit in front", []string{"1a"}, api.ErrName},
		{"a long name", []string{strings.Repeat("a", 24)}, api.OK},
		{"a name that is too long", []string{strings.Repeat("a", 25)}, api.ErrName},
		{"one twice", []string{"ann", "bob", "ann"}, api.ErrTwice},
		{"names differ by their letters", []string{"ann", "Ann"}, api.OK},
		{"twice, then no name", []string{"ann", "ann", "-"}, api.ErrTwice},
		{"no name, then twice", []string{"ann", "-", "ann"}, api.ErrName},
		{"twice no name", []string{"-", "-"}, api.ErrName},
	} {
		check(t, what+", athletes: "+x.what, e(x.l), x.want)
	}
}

func TestCheckContest(t *testing.T) {
	checkOfAthletes(t, "CheckContest", func(l []string) api.Errno { return CheckContest(Contest{Athletes: l, Trials: 3}) })
	checkRange(t, "the trials", 1, 6, func(n int) api.Errno { return CheckContest(contest("ann", n, 0, 0)) })
	for trials := 1; trials <= 6; trials++ {
		if trials < 6 {
			checkRange(t, "more trials", 1, 6-trials, func(n int) api.Errno {
				if n == 0 {
					n = -1
				}
				return CheckContest(contest("ann", trials, 1, n))
			})
		}
		check(t, "no more trials", CheckContest(contest("ann", trials, 0, 0)), api.OK)
		check(t, "one too many", CheckContest(contest("ann", trials, 1, 7-trials)), api.ErrRange)
	}
	checkRange(t, "the finalists", 1, 32, func(n int) api.Errno { return CheckContest(contest("ann", 3, n, 3)) })
	checkRange(t, "no finalists", 0, 0, func(n int) api.Errno { return CheckContest(contest("ann", 3, n, 0)) })
	check(t, "the greatest numbers", CheckContest(contest("ann", -1<<63, 1<<63-1, 1<<63-1)), api.ErrRange)
}

func TestErrorsOfContests(t *testing.T) {
	for _, x := range []struct {
		c    Contest
		l    []Act
		want api.Errno
	}{
		{Contest{}, throws("- 1"), api.ErrEmpty},
		{contest("ann ann", 0, 0, 0), nil, api.ErrTwice},
		{contest("ann", 0, 0, 0), throws("- 1"), api.ErrRange},
		{contest("ann", 1, 0, 0), throws("- 1"), api.ErrName},
		{contest("ann", 1, 0, 0), throws("bob 1 - 1"), api.ErrName},
		{contest("ann", 1, 0, 0), jumps("ann o"), api.ErrKind},
		{contest("ann", 1, 0, 0), throws("ann 1000000 - 1"), api.ErrRange},
		{contest("ann", 1, 0, 0), make([]Act, 1001), api.ErrMany},
		{contest("ann", 1, 0, 0), make([]Act, 1000), api.ErrName},
	} {
		l, aside, e := Compete(x.c, x.l)
		check(t, "Compete", e, x.want)
		checkNothing(t, "Compete", l, aside)
		who, n, e := Next(x.c, x.l)
		check(t, "Next", e, x.want)
		checkNothing(t, "Next", who, n)
	}
	l, aside, e := Compete(contest("ann", 1, 0, 0), throws(strings.Repeat("bob 1 ", 1000)))
	check(t, "as many acts as possible", e, api.OK)
	check(t, "as many acts as possible", l, rows("ann"))
	check(t, "all of them are set aside", len(aside), 1000)
	check(t, "the last one", aside[999], Refusal{1000, 1})
}

// checkTrials checks the rows after acts, and who is next.
func checkTrials(t *testing.T, c Contest, acts string, want []Row, aside []Refusal, next string, number int) {
	t.Helper()
	l, refused, e := Compete(c, throws(acts))
	check(t, acts, l, want)
	check(t, acts+", set aside", refused, aside)
	check(t, acts, e, api.OK)
	who, n, e := Next(c, throws(acts))
	if next == "" {
		check(t, acts+", over", e, api.ErrOver)
		checkNothing(t, acts, who, n)
		return
	}
	check(t, acts+", the next one", who+strconv.Itoa(n), next+strconv.Itoa(number))
	check(t, acts, e, api.OK)
}

func TestTrials(t *testing.T) {
	all := contest("ann bob cat", 3, 0, 0)
	for _, x := range []struct {
		acts   string
		want   []Row
		aside  []Refusal
		next   string
		number int
	}{
		{"", rows("ann", "bob", "cat"), nil, "ann", 1},
		{"ann 1", rows("ann 0", "bob", "cat"), nil, "bob", 1},
		{"ann 1 bob F", rows("ann 0", "bob F", "cat"), nil, "cat", 1},
		{"ann 9 bob 10 cat 19", rows("ann 0", "bob 10", "cat 10"), nil, "ann", 2},
		{"ann 0 bob 999999 cat P ann 2", rows("ann 0 0", "bob 999990", "cat P"), nil, "bob", 2},
		{"bob 5", rows("ann", "bob", "cat"), []Refusal{{1, 3}}, "ann", 1},
		{"bob F cat P ann F", rows("ann F", "bob", "cat"), []Refusal{{1, 3}, {2, 3}}, "bob", 1},
		{"dan 5 dan r ann 10", rows("ann 10", "bob", "cat"), []Refusal{{1, 1}, {2, 1}}, "bob", 1},
		// who retires may do so at any time
		{"bob r ann 10", rows("ann 10", "bob r", "cat"), nil, "cat", 1},
		{"ann r", rows("ann r", "bob", "cat"), nil, "bob", 1},
		{"ann 10 ann r bob 10 cat 10", rows("ann 10 r", "bob 10", "cat 10"), nil, "bob", 2},
		{"ann r ann r ann 10 bob 10", rows("ann r", "bob 10", "cat"), []Refusal{{2, 2}, {3, 2}}, "cat", 1},
		// one has a trial less than another one: the fewest trials are first
		{"ann 10 bob 10 cat 10 ann 10 bob 10 ann 10", rows("ann 10 10", "bob 10 10", "cat 10"), []Refusal{{6, 3}}, "cat", 2},
		// the end
		{"ann r bob r cat r", rows("ann r", "bob r", "cat r"), nil, "", 0},
		{"ann r bob r cat r ann r bob 10 dan 10", rows("ann r", "bob r", "cat r"), []Refusal{{4, 2}, {5, 2}, {6, 1}}, "", 0},
		{"ann r bob r cat 1 cat 2 cat 3", rows("ann r", "bob r", "cat 0 0 0"), nil, "", 0},
		{"ann r bob r cat 1 cat 2 cat 3 cat F cat r", rows("ann r", "bob r", "cat 0 0 0"), []Refusal{{6, 2}, {7, 2}}, "", 0},
	} {
		checkTrials(t, all, x.acts, x.want, x.aside, x.next, x.number)
	}
	checkTrials(t, contest("ann", 6, 0, 0), "ann F ann P ann F ann P ann 10", rows("ann F P F P 10"), nil, "ann", 6)
	checkTrials(t, contest("ann", 6, 0, 0), "ann F ann P ann F ann P ann 10 ann 25", rows("ann F P F P 10 20"), nil, "", 0)
}

func TestFinals(t *testing.T) {
	for _, x := range []struct {
		what   string
		c      Contest
		acts   string
		want   []Row
		aside  []Refusal
		next   string
		number int
	}{
		{"the worst one is first", contest("ann bob cat", 1, 2, 2), "ann 30 bob 10 cat 20", rows("ann 30", "bob 10", "cat 20"), nil, "cat", 2},
		{"then the better one", contest("ann bob cat", 1, 2, 2), "ann 30 bob 10 cat 20 cat 50", rows("ann 30", "bob 10", "cat 20 50"), nil, "ann", 2},
		{"the order stays", contest("ann bob cat", 1, 2, 2), "ann 30 bob 10 cat 20 cat 50 ann F", rows("ann 30 F", "bob 10", "cat 20 50"), nil, "cat", 3},
		{"to the end", contest("ann bob cat", 1, 2, 2), "ann 30 bob 10 cat 20 cat 50 ann F cat P ann P cat F bob r", rows("ann 30 F P", "bob 10", "cat 20 50 P"), []Refusal{{8, 2}, {9, 2}}, "", 0},
		{"another order", contest("ann bob cat", 1, 2, 2), "ann 30 bob 10 cat 20 ann 10 bob 10", rows("ann 30", "bob 10", "cat 20"), []Refusal{{4, 3}, {5, 3}}, "cat", 2},
		{"ties make more finalists", contest("ann bob cat", 1, 1, 1), "ann 30 bob 20 cat 30", rows("ann 30", "bob 20", "cat 30"), nil, "ann", 2},
		{"ties make more finalists", contest("ann bob cat", 1, 1, 1), "ann 30 bob 20 cat 30 ann F", rows("ann 30 F", "bob 20", "cat 30"), nil, "cat", 2},
		{"ties behind the first one", contest("ann bob cat dan", 1, 2, 1), "ann 10 bob 20 cat 10 dan 10", rows("ann 10", "bob 20", "cat 10", "dan 10"), nil, "ann", 2},
		{"ties behind the first one", contest("ann bob cat dan", 1, 2, 1), "ann 10 bob 20 cat 10 dan 10 ann 30 cat 40", rows("ann 10 30", "bob 20", "cat 10 40", "dan 10"), nil, "dan", 2},
		{"the series decides", contest("ann bob", 2, 1, 1), "ann 20 bob 20 ann 10 bob F", rows("ann 20 10", "bob 20 F"), nil, "ann", 3},
		{"nobody without a mark", contest("ann bob", 1, 2, 1), "ann F bob 0", rows("ann F", "bob 0"), nil, "bob", 2},
		{"no mark at all", contest("ann bob", 1, 2, 1), "ann F bob P", rows("ann F", "bob P"), nil, "", 0},
		{"one who has retired is a finalist", contest("ann bob cat", 2, 2, 1), "ann 30 bob 20 cat 10 ann r bob 20 cat 10", rows("ann 30 r", "bob 20 20", "cat 10 10"), nil, "bob", 3},
		{"one who has retired is a finalist", contest("ann bob cat", 2, 2, 1), "ann 30 bob 20 cat 10 ann r bob 20 cat 10 bob 10 cat 10", rows("ann 30 r", "bob 20 20 10", "cat 10 10"), []Refusal{{8, 2}}, "", 0},
		{"one retires in the finals", contest("ann bob cat", 1, 2, 2), "ann 30 bob 10 cat 20 cat r", rows("ann 30", "bob 10", "cat 20 r"), nil, "ann", 2},
		{"one who is no finalist retires", contest("ann bob cat", 1, 2, 2), "ann 30 bob 10 cat 20 bob r bob r", rows("ann 30", "bob 10 r", "cat 20"), []Refusal{{5, 2}}, "cat", 2},
		{"all finalists retire", contest("ann bob cat", 1, 2, 2), "ann 30 bob 10 cat 20 ann r cat r bob r", rows("ann 30 r", "bob 10", "cat 20 r"), []Refusal{{6, 2}}, "", 0},
		{"more finalists than athletes", contest("ann bob", 1, 32, 5), "ann 30 bob 10 bob 1 ann 1 bob 1 ann 1 bob 1 ann 1 bob 1 ann 1", rows("ann 30 0 0 0 0", "bob 10 0 0 0 0"), nil, "bob", 6},
		{"no finals before the last trial", contest("ann bob", 2, 1, 1), "ann 30 bob 10 ann 30 ann 30", rows("ann 30 30", "bob 10"), []Refusal{{4, 3}}, "bob", 2},
		{"no finals", contest("ann bob", 1, 0, 0), "ann 30 bob 10 ann 30", rows("ann 30", "bob 10"), []Refusal{{3, 2}}, "", 0},
	} {
		t.Run(x.what, func(t *testing.T) { checkTrials(t, x.c, x.acts, x.want, x.aside, x.next, x.number) })
	}
}

func TestOthersOfContests(t *testing.T) {
	c, l := exampleC(), throws(exampleThrows)
	first, _, _ := Compete(c, l)
	second, _, _ := Compete(c, l)
	first[0].Trials[0], first[1].Athlete = 7, "zoe"
	first[0].Trials = append(first[0].Trials, 7)
	check(t, "another result", second, rows("ann 5000 F", "bob F 5000", "cat 4800 4900"))
	check(t, "another row", first[1].Trials, []int{Foul, 5000})
	check(t, "the acts", l, throws(exampleThrows))
	check(t, "the competition", c, exampleC())
}

func TestConstants(t *testing.T) {
	check(t, "a foul, a pass, and the most athletes", []int{Foul, Pass, MaxField}, []int{-1, -2, 32})
}

// TestLongContest goes through a competition that is as long as possible.
func TestLongContest(t *testing.T) {
	c := Contest{Athletes: names(32), Trials: 3, Finalists: 32, More: 3}
	var l []Act
	for n := range 6 {
		for i := range 32 {
			if n >= 3 {
				i = 31 - i // the marks of the first trials fall
			}
			l = append(l, Act{c.Athletes[i], "mark", 100*n + 10*(31-i)})
		}
	}
	got, aside, e := Compete(c, l)
	check(t, "all acts fit", aside, []Refusal{})
	check(t, "Compete", e, api.OK)
	check(t, "the last row", got[31], row("a31 0 100 200 300 400 500"))
	_, _, e = Next(c, l)
	check(t, "Next", e, api.ErrOver)
	p, _ := Ranking(got)
	check(t, "the last place", p[31], places("a31 32 500")[0])
}

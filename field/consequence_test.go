package field

import (
	"math/rand"
	"slices"
	"testing"

	"stadion/api"
)

func randomRows(r *rand.Rand) []Row {
	return each(names(1+r.Intn(6)), func(name string) Row {
		x := Row{Athlete: name, Retired: r.Intn(4) == 0}
		for range r.Intn(6) {
			x.Trials = append(x.Trials, r.Intn(6)-2)
		}
		return x
	})
}

// rankOf returns the rank of an athlete.
func rankOf(t *testing.T, l []Row, who string) int {
	t.Helper()
	p, e := Ranking(l)
	check(t, "Ranking", e, api.OK)
	for _, x := range p {
		if x.Athlete == who {
			return x.Rank
		}
	}
	t.Fatalf("%s has no place", who)
	return 0
}

func TestSeriesAlone(t *testing.T) {
	r := rand.New(rand.NewSource(3))
	for range 2000 {
		l := randomRows(r)
		p, _ := Ranking(l)
		other := each(l, func(x Row) Row {
			marks := slices.DeleteFunc(slices.Clone(x.Trials), func(n int) bool { return n < 0 })
			for range r.Intn(7 - len(marks)) {
				marks = append(marks, []int{Foul, Pass}[r.Intn(2)])
			}
			r.Shuffle(len(marks), func(i, j int) { marks[i], marks[j] = marks[j], marks[i] })
			if len(x.Trials) == 0 {
				marks = nil
			} else if len(marks) == 0 {
				marks = []int{Pass}
			}
			return Row{x.Athlete, marks, x.Retired}
		})
		q, e := Ranking(other)
		check(t, "other trials with the same series", q, p)
		check(t, "Ranking", e, api.OK)
	}
}

func TestFurtherMarks(t *testing.T) {
	r := rand.New(rand.NewSource(4))
	for range 2000 {
		l := randomRows(r)
		i := r.Intn(len(l))
		before := rankOf(t, l, l[i].Athlete)
		l[i].Trials = append(l[i].Trials, r.Intn(5))
		after := rankOf(t, l, l[i].Athlete)
		if after == 0 || before > 0 && after > before {
			t.Errorf("%+v: the rank %d after %d", l[i], after, before)
		}
	}
}

func TestCorrections(t *testing.T) {
	r := rand.New(rand.NewSource(5))
	for range 500 {
		j := judge{randomContest(r), map[string][]int{}, map[string]bool{}}
		var l []Act
		for range 1 + r.Intn(20) {
			a := randomThrow(r, j)
			l = append(l, a)
			j.rule(a)
		}
		number := 1 + r.Intn(len(l))
		same, e := Corrected(l, number, l[number-1], false)
		check(t, "an act in its own place", same, l)
		check(t, "Corrected", e, api.OK)
		other := randomThrow(r, j)
		x, e := Corrected(l, number, other, false)
		check(t, "Corrected", e, api.OK)
		back, _ := Corrected(x, number, l[number-1], false)
		check(t, "and back", back, l)
		// what follows is that of the corrected acts
		k := judge{j.c, map[string][]int{}, map[string]bool{}}
		for i := range l {
			k.rule(append(append(slices.Clone(l[:number-1]), other), l[number:]...)[i])
		}
		got, _, _ := Compete(j.c, x)
		check(t, "the rows", got, each(j.c.Athletes, func(name string) Row { return Row{name, k.trials[name], k.retired[name]} }))
	}
}

// TestTextsOfCards checks that exactly the texts of cards are read, among all short ones of some words.
func TestTextsOfCards(t *testing.T) {
	words := []string{"o", "xo", "-", "x-", "x", "xx", "xxx", "|", "retired"}
	read := 0
	for n := range 9 * 9 * 9 * 9 {
		text := "ann:"
		for ; n > 0; n /= 9 {
			text += " " + words[n%9]
		}
		c, e := ParseCard(text)
		if e != api.OK {
			checkNothing(t, text, c)
			continue
		}
		read++
		s, e := PrintCard(c)
		check(t, "PrintCard", s, text)
		check(t, "PrintCard", e, api.OK)
	}
	if read < 300 {
		t.Errorf("%d texts are read", read)
	}
}

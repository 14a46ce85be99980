package score

import (
	"fmt"
	"math/big"
	"math/rand"
	"slices"
	"testing"

	"stadion/api"
	"stadion/mark"
)

func TestBetterMarksHaveMorePoints(t *testing.T) {
	r := rand.New(rand.NewSource(20))
	for range 10000 {
		s := randomScale(r, []int{30, 3000, 999999}[r.Intn(3)])
		value := 1 + r.Intn(999999)
		a, b := api.Mark{Kind: s.Kind, Value: value}, api.Mark{Kind: s.Kind, Value: min(value+r.Intn(1+r.Intn(3000)), 999999)}
		if order, _ := mark.Compare(a, b); order > 0 {
			a, b = b, a
		}
		n, _ := Points(s, a)
		m, _ := Points(s, b)
		if n < m {
			t.Errorf("%v has %d points, %v has %d, by %v", a, n, b, m, s)
		}
		if m, _ := Points(s, none("DQ")); m != 0 {
			t.Errorf("no mark has %d points", m)
		}
	}
}

// TestNeedIsTheWorstMark looks at the rounded mark that is next worse.
func TestNeedIsTheWorstMark(t *testing.T) {
	r := rand.New(rand.NewSource(21))
	found := 0
	for range 5000 {
		s := randomScale(r, 999999)
		points := 1 + r.Intn(s.Steps[0].Points+s.Steps[len(s.Steps)-1].Points+1)
		if points > 99999 {
			continue
		}
		m, e := Need(s, points)
		if e != api.OK {
			continue
		}
		found++
		rounded, _ := mark.Round(m, s.Class)
		check(t, "the rounded mark", rounded, m)
		n, _ := Points(s, m)
		if m.Value -= unitOf(s.Class); s.Kind == "time" {
			m.Value += 2 * unitOf(s.Class)
		}
		worse, _ := Points(s, m)
		if n < points || worse >= points {
			t.Errorf("the mark for %d points has %d, the next one, %v, has %d, by %v", points, n, m, worse, s)
		}
	}
	if found < 1000 {
		t.Errorf("%d marks", found)
	}
}

// TestPointsOfAllLinesAddUp gives points to all.
func TestPointsOfAllLinesAddUp(t *testing.T) {
	r := rand.New(rand.NewSource(22))
	for range 3000 {
		l, tariff := randomLines(r)
		clubs, _ := Award(l, tariff, api.MaxAthletes)
		all := new(big.Rat)
		for _, c := range clubs {
			all.Add(all, numberOf(c.Points))
		}
		withMark := len(those(l, func(x Line) bool { return x.Mark.Kind != "none" }))
		check(t, fmt.Sprint("the points for ", l), all, big.NewRat(int64(sum(tariff[:min(withMark, len(tariff))])), 1))
	}
}

// TestStandingsAreATotalPreorder checks that any two athletes are in the same order without the others.
func TestStandingsAreATotalPreorder(t *testing.T) {
	r := rand.New(rand.NewSource(23))
	for range 2000 {
		x := randomRequest(r)
		l, _ := Ranking(x.l, x.r, x.day)
		for i, a := range l {
			for _, b := range l[i+1:] {
				two := those(x.l, func(p Performance) bool { return p.Athlete == a.Athlete || p.Athlete == b.Athlete })
				pair, _ := Ranking(two, x.r, x.day)
				want := []Standing{{a.Athlete, a.Score, 1}, {b.Athlete, b.Score, 1}}
				if a.Rank < b.Rank {
					want[1].Rank = 2
				}
				check(t, "the ranking of two", pair, want)
			}
		}
	}
}

// knowledge is all that is known of records today.
func knowledge(x Terms, l []Claim, today int) []string {
	var all []string
	for day := range today + 1 {
		record, _ := Record(x, l, day, today)
		all = append(all, fmt.Sprint(each(record, func(i int) Claim { return l[i] })))
	}
	return all
}

func TestRecordsNeverGetWorse(t *testing.T) {
	r := rand.New(rand.NewSource(24))
	for range 2000 {
		x, l := randomClaims(r)
		today := r.Intn(30)
		var before []int
		for day := range today + 1 {
			record, _ := Record(x, l, day, today)
			if len(before) > 0 && (len(record) == 0 || beats(l[before[0]].Mark, l[record[0]].Mark)) {
				t.Errorf("the record %v of the day %d is worse than %v, of %v", record, day, before, l)
			}
			before = record
		}
	}
}

// TestWithdrawnClaimsReviveOthers checks that a claim which is withdrawn might as well not be there.
func TestWithdrawnClaimsReviveOthers(t *testing.T) {
	r := rand.New(rand.NewSource(25))
	changed := 0
	for range 2000 {
		x, l := randomClaims(r)
		today := r.Intn(30)
		before := knowledge(x, l, today)
		for i, c := range l {
			if !stood(x, c, today) {
				continue
			}
			without := slices.Delete(slices.Clone(l), i, i+1)
			withdrawn := slices.Clone(l)
			withdrawn[i].Withdrawn = today
			now := knowledge(x, withdrawn, today)
			check(t, "the records", now, knowledge(x, without, today))
			if !slices.Equal(now, before) {
				changed++
			}
		}
	}
	if changed < 200 {
		t.Errorf("%d claims were records", changed)
	}
}

// TestWorseClaimsChangeNothing adds a claim that is worse than the record of its day.
func TestWorseClaimsChangeNothing(t *testing.T) {
	r := rand.New(rand.NewSource(26))
	worse := 0
	for range 5000 {
		x, l := randomClaims(r)
		today := r.Intn(30)
		c := Claim{"c", api.Mark{Kind: x.Kind, Value: 1 + r.Intn(5)}, r.Intn(today + 1), 0, today, -1}
		record, _ := Record(x, l, c.Day, today)
		if len(record) == 0 || !beats(l[record[0]].Mark, c.Mark) {
			continue
		}
		worse++
		check(t, "the records", knowledge(x, append(slices.Clone(l), c), today), knowledge(x, l, today))
	}
	if worse < 500 {
		t.Errorf("%d claims are worse", worse)
	}
}

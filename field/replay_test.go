package field

import (
	"math/rand"
	"slices"
	"strings"
	"testing"

	"stadion/api"
)

// judge is a second, separate competition in trials, which asks all athletes at each act.
type judge struct {
	c       Contest
	trials  map[string][]int
	retired map[string]bool
}

// padded returns the marks of the first trials in descending order, and -1 for what is none.
func padded(trials []int, first int) [6]int {
	l := [6]int{-1, -1, -1, -1, -1, -1}
	copy(l[:], trials[:min(first, len(trials))])
	for i := range l {
		l[i] = max(l[i], -1)
	}
	slices.Sort(l[:])
	slices.Reverse(l[:])
	return l
}

func less(a, b [6]int) bool { return slices.Compare(a[:], b[:]) < 0 }

func (j judge) rank(who string, first int) int {
	mine := padded(j.trials[who], first)
	if mine[0] < 0 {
		return 0
	}
	rank := 1
	for _, other := range j.c.Athletes {
		if less(mine, padded(j.trials[other], first)) {
			rank++
		}
	}
	return rank
}

// next returns the athlete whose trial is next, or "".
func (j judge) next() string {
	best := ""
	for _, who := range j.c.Athletes {
		n := len(j.trials[who])
		if !j.retired[who] && n < j.c.Trials && (best == "" || n < len(j.trials[best])) {
			best = who
		}
	}
	if best != "" || j.c.More == 0 {
		return best
	}
	for rank := j.c.Finalists; rank > 0; rank-- {
		for _, who := range j.c.Athletes {
			n := len(j.trials[who])
			if j.rank(who, j.c.Trials) == rank && !j.retired[who] && n < j.c.Trials+j.c.More && (best == "" || n < len(j.trials[best])) {
				best = who
			}
		}
	}
	return best
}

// rule lets the athlete of an act do it, or returns the rule that it breaks.
func (j judge) rule(a Act) int {
	next := j.next()
	switch {
	case !slices.Contains(j.c.Athletes, a.Athlete):
		return 1
	case next == "" || j.retired[a.Athlete]:
		return 2
	case a.Kind == "retire":
		j.retired[a.Athlete] = true
		return 0
	case next != a.Athlete:
		return 3
	}
	n := map[string]int{"mark": a.Value / 10 * 10, "foul": Foul, "pass": Pass}[a.Kind]
	j.trials[a.Athlete] = append(j.trials[a.Athlete], n)
	return 0
}

// mostly returns the first element, but sometimes one of the others.
func mostly[T any](r *rand.Rand, x T, others ...T) T {
	if r.Intn(6) > 0 {
		return x
	}
	return others[r.Intn(len(others))]
}

func randomContest(r *rand.Rand) Contest {
	c := Contest{Athletes: names(1 + r.Intn(5)), Trials: 1 + r.Intn(3)}
	if r.Intn(3) > 0 {
		c.More, c.Finalists = 1+r.Intn(3), 1+r.Intn(4)
	}
	return c
}

// randomThrow returns an act of whoever is next, or of anybody.
func randomThrow(r *rand.Rand, j judge) Act {
	a := Act{Athlete: mostly(r, j.next(), append(names(6), "zoe")...), Kind: []string{"mark", "mark", "mark", "foul", "pass", "retire"}[r.Intn(6)]}
	if a.Athlete == "" {
		a.Athlete = "a0"
	}
	if a.Kind == "retire" && r.Intn(3) > 0 {
		a.Kind = "mark"
	}
	if a.Kind == "mark" {
		a.Value = 10*r.Intn(4) + r.Intn(10)
	}
	return a
}

func TestRandomTrials(t *testing.T) {
	r := rand.New(rand.NewSource(1))
	overs := 0
	for range 3000 {
		j := judge{randomContest(r), map[string][]int{}, map[string]bool{}}
		var l, kept []Act
		var aside []Refusal
		for n := range r.Intn(40) {
			a := randomThrow(r, j)
			l = append(l, a)
			if rule := j.rule(a); rule != 0 {
				aside = append(aside, Refusal{n + 1, rule})
			} else {
				kept = append(kept, a)
			}
		}
		want := each(j.c.Athletes, func(name string) Row { return Row{name, j.trials[name], j.retired[name]} })
		for _, acts := range [][]Act{l, kept} { // what is set aside can be left out
			got, refused, e := Compete(j.c, acts)
			check(t, "the rows", got, want)
			check(t, "Compete", e, api.OK)
			if len(acts) == len(l) {
				check(t, "what is set aside", refused, aside)
			} else {
				check(t, "what is set aside", refused, []Refusal{})
			}
			who, n, e := Next(j.c, acts)
			if j.next() == "" {
				overs++
				check(t, "Next", e, api.ErrOver)
				continue
			}
			check(t, "the next trial", []any{who, n, e}, []any{j.next(), len(j.trials[j.next()]) + 1, api.OK})
		}
		checkEvenly(t, j)
		checkJudged(t, j, want)
	}
	if overs < 300 {
		t.Errorf("only %d competitions are over", overs)
	}
}

// checkEvenly checks that nobody has more trials than another one by more than 1 ahead of the finals.
func checkEvenly(t *testing.T, j judge) {
	t.Helper()
	for _, a := range j.c.Athletes {
		for _, b := range j.c.Athletes {
			if !j.retired[b] && min(len(j.trials[a]), j.c.Trials) > len(j.trials[b])+1 {
				t.Errorf("%s has %v, %s %v", a, j.trials[a], b, j.trials[b])
			}
		}
	}
}

// checkJudged checks the places and the finalists of rows.
func checkJudged(t *testing.T, j judge, l []Row) {
	t.Helper()
	p, e := Ranking(l)
	check(t, "Ranking", e, api.OK)
	var want []Place
	for rank := 1; rank <= len(l)+1; rank++ {
		for _, r := range l {
			mine := j.rank(r.Athlete, 6)
			switch {
			case mine == rank:
				want = append(want, Place{r.Athlete, rank, lengthOf(slices.Max(r.Trials))})
			case mine == 0 && rank == len(l)+1 && len(r.Trials) == 0 && r.Retired:
				want = append(want, Place{r.Athlete, 0, noneOf("DNS")})
			case mine == 0 && rank == len(l)+1:
				want = append(want, Place{r.Athlete, 0, noneOf("NM")})
			}
		}
	}
	check(t, "the places", p, want)
	f, e := Finalists(j.c, l)
	if j.c.More == 0 {
		check(t, "Finalists", e, api.ErrNone)
		return
	}
	check(t, "Finalists", e, api.OK)
	var finalists []string
	for rank := j.c.Finalists; rank > 0; rank-- {
		for _, who := range j.c.Athletes {
			if j.rank(who, j.c.Trials) == rank {
				finalists = append(finalists, who)
			}
		}
	}
	check(t, "the finalists", f, finalists)
}

// bar is a second, separate competition over heights, which goes on from act to act.
type bar struct {
	v       Vertical
	texts   map[string][]string // of each athlete for all heights up to that of the competition
	retired map[string]bool
	row     map[string]int
	height  int // of the main competition
	jumpOff bool
	over    bool
	taking  []string
	round   int
	off     map[string][]string
	now     int // the height of the jump-off
}

func newBar(v Vertical) *bar {
	b := &bar{v: v, texts: map[string][]string{}, retired: map[string]bool{}, row: map[string]int{}, off: map[string][]string{}}
	for _, who := range v.Athletes {
		b.texts[who] = []string{""}
	}
	return b
}

// waiting returns those who take part at the height of the main competition, those with the fewest attempts first.
func (b *bar) waiting() []string {
	var l []string
	for attempts := range 3 {
		for _, who := range b.v.Athletes {
			if text := b.texts[who][b.height]; !b.retired[who] && b.row[who] < 3 && len(text) == attempts && !strings.ContainsAny(text, "o-") {
				l = append(l, who)
			}
		}
	}
	return l
}

// next returns who is next, and at which height.
func (b *bar) next() (string, int) {
	switch {
	case b.over:
		return "", 0
	case !b.jumpOff:
		return b.waiting()[0], b.v.Heights[b.height]
	}
	for _, who := range b.taking {
		if len(b.off[who]) < b.round {
			return who, b.now
		}
	}
	panic("nobody is next")
}

func (b *bar) allows(who string) bool {
	if b.over || b.retired[who] {
		return false
	}
	if b.jumpOff {
		return slices.Contains(b.taking, who)
	}
	return b.row[who] < 3
}

// rule lets the athlete of an act do it, or returns the rule that it breaks.
func (b *bar) rule(a Act) int {
	next, _ := b.next()
	who := a.Athlete
	switch {
	case !slices.Contains(b.v.Athletes, who):
		return 1
	case !b.allows(who):
		return 2
	case a.Kind != "retire" && who != next:
		return 3
	case a.Kind == "pass" && b.jumpOff:
		return 4
	}
	letter := map[string]string{"clear": "o", "fail": "x", "pass": "-"}[a.Kind]
	switch {
	case a.Kind == "retire":
		b.retired[who] = true
		b.taking = slices.DeleteFunc(b.taking, func(name string) bool { return name == who })
	case b.jumpOff:
		b.off[who] = append(b.off[who], letter)
	default:
		b.texts[who][b.height] += letter
		if letter == "x" {
			b.row[who]++
		} else if letter == "o" {
			b.row[who] = 0
		}
	}
	b.goOn()
	return 0
}

// goOn begins the next height, the jump-off or the next round, or ends the competition, if it is time.
func (b *bar) goOn() {
	for !b.jumpOff && len(b.waiting()) == 0 {
		if b.height == len(b.v.Heights)-1 || !slices.ContainsFunc(b.v.Athletes, b.allows) {
			b.beginJumpOff()
			return
		}
		b.height++
		for _, who := range b.v.Athletes {
			b.texts[who] = append(b.texts[who], "")
		}
	}
	if !b.jumpOff {
		return
	}
	if len(b.taking) < 2 {
		b.over = true
		return
	}
	if slices.ContainsFunc(b.taking, func(who string) bool { return len(b.off[who]) < b.round }) {
		return
	}
	cleared := func(who string) bool { return len(b.off[who]) == b.round && b.off[who][b.round-1] == "o" }
	if slices.ContainsFunc(b.v.Athletes, cleared) {
		b.taking = slices.DeleteFunc(b.taking, func(who string) bool { return !cleared(who) })
		b.now += b.v.Step
	} else if b.now > b.v.Step {
		b.now = max(b.now-b.v.Step, b.v.Step)
	}
	b.round++
	b.over = len(b.taking) < 2 || b.round > 24
}

// result returns the greatest height of an athlete (0 without one), the failures there, and those up to it.
func (b *bar) result(who string) (height, there, all int) {
	sum := 0
	for i, text := range b.texts[who] {
		n := strings.Count(text, "x")
		sum += n
		if strings.Contains(text, "o") {
			height, there, all = b.v.Heights[i], n, sum
		}
	}
	return height, there, all
}

// compare returns 1 if an athlete is better than another one, without a jump-off.
func (b *bar) compare(x, y string) int {
	hx, tx, ax := b.result(x)
	hy, ty, ay := b.result(y)
	switch {
	case hx != hy:
		return 1 - 2*b2i(hx < hy)
	case tx != ty:
		return 1 - 2*b2i(tx > ty)
	case ax != ay:
		return 1 - 2*b2i(ax > ay)
	}
	return 0
}

func b2i(b bool) int {
	if b {
		return 1
	}
	return 0
}

// isFirst reports whether an athlete has cleared a height, and nobody is better.
func (b *bar) isFirst(who string) bool {
	height, _, _ := b.result(who)
	return height > 0 && !slices.ContainsFunc(b.v.Athletes, func(other string) bool { return b.compare(other, who) > 0 })
}

func (b *bar) beginJumpOff() {
	b.jumpOff, b.round = true, 1
	for _, who := range b.v.Athletes {
		if b.isFirst(who) && !b.retired[who] {
			b.taking = append(b.taking, who)
			height, _, _ := b.result(who)
			b.now = height + b.v.Step
		}
	}
	b.over = len(b.taking) < 2
}

// beats reports whether an athlete is better than another one at the end.
func (b *bar) beats(x, y string) bool {
	order := b.compare(x, y)
	if order != 0 || !b.isFirst(x) {
		return order > 0
	}
	for i := range 24 {
		value := func(who string) int {
			if i >= len(b.off[who]) {
				return 0
			}
			return map[string]int{"x": 1, "o": 2}[b.off[who][i]]
		}
		if value(x) != value(y) {
			return value(x) > value(y)
		}
	}
	return !b.retired[x] && b.retired[y]
}

func (b *bar) cards() []Card {
	return each(b.v.Athletes, func(who string) Card {
		texts := slices.Clone(b.texts[who])
		for len(texts) > 0 && texts[len(texts)-1] == "" {
			texts = texts[:len(texts)-1]
		}
		return Card{who, texts, b.off[who], b.retired[who]}
	})
}

func (b *bar) places() []Place {
	var ranked, unranked []Place
	for _, c := range b.cards() {
		height, _, _ := b.result(c.Athlete)
		if height == 0 {
			reason := "NM"
			if len(c.Heights) == 0 && c.Retired {
				reason = "DNS"
			}
			unranked = append(unranked, Place{c.Athlete, 0, noneOf(reason)})
			continue
		}
		p := Place{c.Athlete, 1, lengthOf(height)}
		for _, other := range b.v.Athletes {
			if h, _, _ := b.result(other); h > 0 && b.beats(other, c.Athlete) {
				p.Rank++
			}
		}
		at := len(ranked)
		for at > 0 && ranked[at-1].Rank > p.Rank {
			at--
		}
		ranked = slices.Insert(ranked, at, p)
	}
	return append(ranked, unranked...)
}

func randomVertical(r *rand.Rand) Vertical {
	v := Vertical{Athletes: names(1 + r.Intn(4)), Step: 10 + 10*r.Intn(4)}
	for i := range 1 + r.Intn(3) {
		v.Heights = append(v.Heights, 20+50*i)
	}
	return v
}

// randomJump returns an act of whoever is next, or of anybody; so many of ten are clearances.
func randomJump(r *rand.Rand, b *bar, good int) Act {
	next, _ := b.next()
	a := Act{Athlete: mostly(r, next, append(names(5), "zoe")...), Kind: "fail"}
	if a.Athlete == "" {
		a.Athlete = "a0"
	}
	if r.Intn(10) < good {
		a.Kind = "clear"
	}
	a.Kind = mostly(r, a.Kind, "clear", "fail", "pass", "pass")
	if r.Intn(40) == 0 {
		a.Kind = "retire"
	}
	return a
}

func TestRandomHeights(t *testing.T) {
	r := rand.New(rand.NewSource(2))
	jumpOffs, overs, lasts := 0, 0, 0
	for range 4000 {
		b := newBar(randomVertical(r))
		good := []int{0, 1, 5, 9, 10}[r.Intn(5)]
		length, equal := r.Intn(80), r.Intn(20) == 0
		if equal {
			length = 200
		}
		var l, kept []Act
		var aside []Refusal
		for n := range length {
			a := randomJump(r, b, good)
			if equal && !b.over && r.Intn(80) > 0 { // all of them alike, so that it goes on to the last round
				a.Athlete, _ = b.next()
				a.Kind = []string{"clear", "fail"}[b2i(b.jumpOff)]
			}
			l = append(l, a)
			if rule := b.rule(a); rule != 0 {
				aside = append(aside, Refusal{n + 1, rule})
			} else {
				kept = append(kept, a)
			}
		}
		for _, acts := range [][]Act{l, kept} { // what is set aside can be left out
			got, refused, e := Jump(b.v, acts)
			check(t, "the cards", got, b.cards())
			check(t, "Jump", e, api.OK)
			if len(acts) == len(l) {
				check(t, "what is set aside", refused, aside)
			} else {
				check(t, "what is set aside", refused, []Refusal{})
			}
			who, height, e := Due(b.v, acts)
			if b.over {
				check(t, "Due", e, api.ErrOver)
				checkNothing(t, "Due", who, height)
			} else {
				next, now := b.next()
				check(t, "who is next", []any{who, height, e}, []any{next, now, api.OK})
			}
			checkFailures(t, b, got)
			p, e := Standing(b.v, got)
			check(t, "the standing", p, b.places())
			check(t, "Standing", e, api.OK)
		}
		jumpOffs += b2i(b.jumpOff && b.round > 2)
		overs += b2i(b.over)
		lasts += b2i(b.round > 24)
	}
	if jumpOffs < 100 || overs < 1000 || lasts < 10 {
		t.Errorf("%d jump-offs of more than two rounds, %d competitions are over, %d after all rounds", jumpOffs, overs, lasts)
	}
}

// checkFailures checks that nobody is out with fewer than three failures, and the texts of the cards.
func checkFailures(t *testing.T, b *bar, l []Card) {
	t.Helper()
	for _, c := range l {
		if strings.Count(strings.Join(c.Heights, ""), "x") < 3 && !c.Retired && !b.jumpOff && !b.allows(c.Athlete) {
			t.Errorf("%+v is out", c)
		}
		s, e := PrintCard(c)
		check(t, "PrintCard", e, api.OK)
		again, e := ParseCard(s)
		check(t, s, again, c)
		check(t, s, e, api.OK)
	}
}

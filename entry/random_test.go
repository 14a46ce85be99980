package entry

import (
	"fmt"
	"math/rand"
	"slices"
	"sort"
	"testing"

	"stadion/api"
)

// desk is the entry office once more, with what it has by names, as the chapter's definitions say it.
type desk struct {
	m        Meeting
	s        State
	latest   int
	contests map[string]Contest
	athletes map[string]int // the places in the state
	refused  []Refusal
}

func newDesk(m Meeting) *desk {
	d := &desk{m: m, contests: map[string]Contest{}, athletes: map[string]int{}}
	for _, c := range m.Contests {
		d.contests[c.Name] = c
	}
	return d
}

func (d *desk) hasClub(name string) bool {
	for _, c := range d.s.Clubs {
		if c == name {
			return true
		}
	}
	return false
}

// entry returns the place of an entry, and how many ones the athlete has.
func (d *desk) entry(athlete, contest string) (place, count int) {
	place = -1
	for i, x := range d.s.Entries {
		if x.Athlete == athlete {
			count++
			if x.Contest == contest {
				place = i
			}
		}
	}
	return place, count
}

func (d *desk) eligible(athlete, contest string) api.Errno {
	a, c := d.s.Athletes[d.athletes[athlete]], d.contests[contest]
	if c.Category != "" && a.Category != c.Category {
		return api.ErrRule
	}
	days := d.m.Day - a.Born
	if days < c.Least*365 || days >= (c.Most+1)*365 {
		return api.ErrRule
	}
	for _, l := range d.s.Licences {
		if l.Athlete == athlete && l.From <= d.m.Day && l.To >= d.m.Day {
			return api.OK
		}
	}
	return api.ErrNone
}

// meets reports whether a mark meets the standard of a contest.
func (d *desk) meets(c Contest, m api.Mark) bool {
	switch {
	case m.Kind != "none" && m.Kind != c.Kind:
		return false
	case c.Standard.Kind == "none":
		return true
	case m.Kind == "none":
		return false
	case c.Kind == "time":
		return m.Value <= c.Standard.Value
	}
	return m.Value >= c.Standard.Value
}

// take does what an act says, or returns the error with which it is not legal.
func (d *desk) take(a Act) api.Errno {
	_, known := d.athletes[a.Athlete]
	c, held := d.contests[a.Contest]
	place, count := d.entry(a.Athlete, a.Contest)
	switch a.Kind {
	case "club":
		if d.hasClub(a.Club) {
			return api.ErrTwice
		}
		d.s.Clubs = append(d.s.Clubs, a.Club)
	case "athlete":
		if !d.hasClub(a.Club) {
			return api.ErrUnknown
		}
		if known {
			return api.ErrTwice
		}
		if a.From > a.Day {
			return api.ErrRange
		}
		d.athletes[a.Athlete] = len(d.s.Athletes)
		d.s.Athletes = append(d.s.Athletes, api.Athlete{Name: a.Athlete, Club: a.Club, Born: a.From, Category: a.Category})
	case "licence":
		if !known {
			return api.ErrUnknown
		}
		d.s.Licences = append(d.s.Licences, Licence{a.Athlete, a.From, a.To})
	case "transfer":
		if !known || !d.hasClub(a.Club) {
			return api.ErrUnknown
		}
		if d.s.Athletes[d.athletes[a.Athlete]].Club == a.Club {
			return api.ErrTwice
		}
		if count > 0 {
			return api.ErrState
		}
		d.s.Athletes[d.athletes[a.Athlete]].Club = a.Club
	case "withdraw":
		if place < 0 {
			return api.ErrUnknown
		}
		if a.Day > d.m.Day {
			return api.ErrOver
		}
		d.s.Entries = append(d.s.Entries[:place], d.s.Entries[place+1:]...)
	case "check":
		if place < 0 {
			return api.ErrUnknown
		}
		if d.s.Entries[place].Checked {
			return api.ErrTwice
		}
		if a.Day != d.m.Day {
			return api.ErrState
		}
		d.s.Entries[place].Checked = true
	case "enter":
		return d.enter(a, c, known && held, place, count)
	case "team":
		return d.team(a, c, held)
	}
	return api.OK
}

func (d *desk) enter(a Act, c Contest, known bool, place, count int) api.Errno {
	if !known {
		return api.ErrUnknown
	}
	if c.Team != 0 {
		return api.ErrKind
	}
	if a.Day < d.m.Opens || a.Day > d.m.Closes {
		return api.ErrState
	}
	if place >= 0 {
		return api.ErrTwice
	}
	if e := d.eligible(a.Athlete, a.Contest); e != api.OK {
		return e
	}
	if !d.meets(c, a.Mark) {
		return api.ErrStandard
	}
	if count >= d.m.Limit {
		return api.ErrMany
	}
	d.s.Entries = append(d.s.Entries, Entry{a.Athlete, a.Contest, a.Mark, a.Day, false})
	return api.OK
}

func (d *desk) team(a Act, c Contest, held bool) api.Errno {
	if !held || !d.hasClub(a.Club) {
		return api.ErrUnknown
	}
	if c.Team == 0 {
		return api.ErrKind
	}
	if a.Day > d.m.Day {
		return api.ErrOver
	}
	if len(a.Names) != c.Team {
		return api.ErrShape
	}
	seen := map[string]bool{}
	for _, name := range a.Names {
		i, known := d.athletes[name]
		if !known {
			return api.ErrUnknown
		}
		if d.s.Athletes[i].Club != a.Club {
			return api.ErrRule
		}
		if seen[name] {
			return api.ErrTwice
		}
		seen[name] = true
		if e := d.eligible(name, a.Contest); e != api.OK {
			return e
		}
	}
	t := Team{a.Club, a.Contest, append([]string{}, a.Names...)}
	for i, x := range d.s.Teams {
		if x.Club == a.Club && x.Contest == a.Contest {
			d.s.Teams[i] = t
			return api.OK
		}
	}
	d.s.Teams = append(d.s.Teams, t)
	return api.OK
}

// replay takes a list of acts.
func (d *desk) replay(l []Act) {
	for i, a := range l {
		e := api.ErrOrder
		if a.Day >= d.latest {
			d.latest = a.Day
			e = d.take(a)
		}
		if e != api.OK {
			d.refused = append(d.refused, Refusal{i, e})
		}
	}
}

// list returns the places in the state of the entries of a contest, the best ones first.
func (d *desk) list(contest string) []int {
	var l []int
	for i, x := range d.s.Entries {
		if x.Contest == contest {
			l = append(l, i)
		}
	}
	key := func(i int) [4]int {
		x := d.s.Entries[i]
		switch x.Mark.Kind {
		case "none":
			return [4]int{1, 0, x.Day, i}
		case "time":
			return [4]int{0, x.Mark.Value, x.Day, i}
		}
		return [4]int{0, -x.Mark.Value, x.Day, i}
	}
	sort.Slice(l, func(i, k int) bool {
		a, b := key(l[i]), key(l[k])
		return slices.Compare(a[:], b[:]) < 0
	})
	return l
}

// divide returns who along the list is accepted, and who is not, of all entries or of those that are checked in.
func (d *desk) divide(contest string, all bool) (accepted, reserves []string) {
	c := d.contests[contest]
	places, clubs := c.Places, map[string]int{}
	for _, i := range d.list(contest) {
		x := d.s.Entries[i]
		if !all && !x.Checked {
			continue
		}
		club := d.s.Athletes[d.athletes[x.Athlete]].Club
		if places > 0 && clubs[club] < c.PerClub {
			places--
			clubs[club]++
			accepted = append(accepted, x.Athlete)
		} else {
			reserves = append(reserves, x.Athlete)
		}
	}
	return accepted, reserves
}

// takesPart reports whether an athlete has entered a contest, or is in a team of it.
func (d *desk) takesPart(athlete, contest string) bool {
	place, _ := d.entry(athlete, contest)
	for _, t := range d.s.Teams {
		if t.Contest == contest && slices.Contains(t.Runners, athlete) {
			return true
		}
	}
	return place >= 0
}

func pick[T any](r *rand.Rand, l ...T) T { return l[r.Intn(len(l))] }

// randomMark returns one of a few marks, most of them of a kind.
func randomMark(r *rand.Rand, kind string) api.Mark {
	switch r.Intn(8) {
	case 0:
		return noMark(pick(r, "DNS", "DNF", "DQ", "NM"))
	case 1:
		return pick(r, timeOf(5), lengthOf(5), pointsOf(5))
	}
	return api.Mark{Kind: kind, Value: 1 + r.Intn(6)}
}

// randomMeeting returns a meeting on the day 8000, whose contests have the names of randomAct.
func randomMeeting(r *rand.Rand) Meeting {
	m := Meeting{Day: 8000, Opens: 7990 + r.Intn(4), Closes: 7994 + r.Intn(6), Limit: pick(r, 0, 1, 2, 3, 3, 3)}
	for _, name := range []string{"c0", "c1", "c2", "c3", "c4"} {
		c := Contest{Name: name, Kind: pick(r, "time", "length", "points"), Category: pick(r, "", "", "men"), Least: pick(r, 0, 0, 17, 18), Most: pick(r, 18, 40), Places: pick(r, 0, 1, 2, 3, 8), PerClub: r.Intn(4)}
		c.Standard = pick(r, noMark("NM"), api.Mark{Kind: c.Kind, Value: 4})
		if name >= "c3" {
			c.Team = 1 + r.Intn(2)
		}
		m.Contests = append(m.Contests, c)
	}
	return m
}

func randomAct(r *rand.Rand, m Meeting, day int) Act {
	athletes := []string{"ann", "bob", "cat", "dan", "eve", "fay", "gus"}
	athlete, club := pick(r, athletes...), pick(r, "A", "A", "B", "B", "C")
	c := pick(r, m.Contests...)
	contest := pick(r, c.Name, c.Name, c.Name, c.Name, c.Name, "c9")
	switch r.Intn(20) {
	case 0:
		return clubAct(day, club)
	case 1, 2:
		a := athleteAct(day, athlete, club, pick(r, 0, 8000-18*365, 8000-18*365+1, 8000-19*365, 8000-19*365+1, 7990, 8001))
		a.Category = pick(r, "men", "men", "women")
		return a
	case 3, 4:
		from := pick(r, 0, 8000, 8001)
		return licenceAct(day, athlete, from, from+pick(r, 0, 7999, 8000))
	case 5:
		return transferAct(day, athlete, club)
	case 6, 7:
		return withdrawAct(day, athlete, contest)
	case 8, 9:
		return checkAct(day, athlete, contest)
	case 10, 11, 12:
		a := teamAct(day, club, contest, athlete, pick(r, athletes...), pick(r, athletes...))
		a.Names = a.Names[:1+r.Intn(8)/3]
		return a
	}
	return enterAct(day, athlete, contest, randomMark(r, c.Kind))
}

// randomActs returns clubs, athletes and licences, then acts at random, some on days before that of another one.
func randomActs(r *rand.Rand, m Meeting) []Act {
	l := []Act{clubAct(7980, "A"), clubAct(7980, "B")}
	for _, name := range []string{"ann", "bob", "cat", "dan", "eve"} {
		a := athleteAct(7980, name, pick(r, "A", "B"), 8000-18*365)
		a.Category = pick(r, "men", "men", "women")
		l = append(l, a, licenceAct(7980, name, 0, pick(r, 7999, 8000, 8001, 8002)))
	}
	day := 7989
	for range 20 + r.Intn(80) {
		if r.Intn(5) == 0 && day < 8002 {
			day++
		}
		l = append(l, randomAct(r, m, day-r.Intn(12)/11))
	}
	return l
}

// TestRandomReplay compares the office with the desk, act by act, and all that can be seen of its state.
func TestRandomReplay(t *testing.T) {
	r := rand.New(rand.NewSource(1))
	seen := map[string]int{}
	for range 1500 {
		m := randomMeeting(r)
		acts := randomActs(r, m)
		d := newDesk(m)
		d.replay(acts)
		s, refused, e := Replay(m, acts)
		check(t, "Replay", []any{s, refused, e}, []any{d.s, d.refused, api.OK})
		check(t, "the state of Replay", CheckState(m, s), api.OK)
		again, none, e := Replay(m, without(acts, refused))
		check(t, "Replay without the refused acts", []any{again, none, e}, []any{s, []Refusal{}, api.OK})
		for _, x := range refused {
			seen[fmt.Sprint(acts[x.Act].Kind, " ", x.Error)]++
		}
		checkViews(t, m, s, d)
		checkOneMore(t, m, s, d, randomAct(r, m, 7990+r.Intn(12)))
		if t.Failed() {
			t.Fatalf("the meeting %+v with %+v", m, acts)
		}
	}
	for _, x := range []struct {
		kind   string
		errors []api.Errno
	}{
		{"club", []api.Errno{api.ErrTwice}}, {"athlete", []api.Errno{api.ErrUnknown, api.ErrTwice, api.ErrRange}}, {"licence", []api.Errno{api.ErrUnknown}},
		{"transfer", []api.Errno{api.ErrUnknown, api.ErrTwice, api.ErrState}}, {"withdraw", []api.Errno{api.ErrUnknown, api.ErrOver}}, {"check", []api.Errno{api.ErrUnknown, api.ErrTwice, api.ErrState}},
		{"enter", []api.Errno{api.ErrUnknown, api.ErrKind, api.ErrState, api.ErrTwice, api.ErrRule, api.ErrNone, api.ErrStandard, api.ErrMany, api.ErrOrder}},
		{"team", []api.Errno{api.ErrUnknown, api.ErrKind, api.ErrOver, api.ErrShape, api.ErrRule, api.ErrTwice, api.ErrNone}},
	} {
		for _, e := range x.errors {
			if seen[fmt.Sprint(x.kind, " ", e)] == 0 {
				t.Errorf("no act of the kind %s is refused with %v", x.kind, e)
			}
		}
	}
}

// checkOneMore checks what Legal and Next say of a further act.
func checkOneMore(t *testing.T, m Meeting, s State, d *desk, a Act) {
	t.Helper()
	before := fmt.Sprintf("%+v", s)
	legal := Legal(m, s, a)
	next, e := Next(m, s, a)
	check(t, "the state before Next", s, before)
	check(t, "Legal and Next", []any{legal, e}, []any{d.take(a), legal})
	if e == api.OK {
		check(t, "Next", next, d.s)
		check(t, "the state of Next", CheckState(m, next), api.OK)
	} else {
		check(t, "a refused act", d.s, s)
	}
}

// checkViews checks all that can be seen of a state.
func checkViews(t *testing.T, m Meeting, s State, d *desk) {
	t.Helper()
	counts := make([]int, len(s.Clubs))
	for i, club := range s.Clubs {
		for _, x := range s.Entries {
			if s.Athletes[d.athletes[x.Athlete]].Club == club {
				counts[i]++
			}
		}
	}
	n, e := Clubs(m, s)
	check(t, "Clubs", []any{n, e}, []any{counts, api.OK})
	for _, c := range m.Contests {
		if c.Team > 0 {
			l, e := Teams(m, s, c.Name)
			check(t, "Teams", []any{l, e}, []any{slices.DeleteFunc(copyTeams(s.Teams), func(x Team) bool { return x.Contest != c.Name }), api.OK})
			continue
		}
		checkLists(t, m, s, d, c.Name)
	}
	common := map[[2]string]bool{}
	for _, a := range s.Athletes {
		var names []string
		for _, c := range m.Contests {
			check(t, "Eligible", Eligible(m, s, a.Name, c.Name), d.eligible(a.Name, c.Name))
			if d.takesPart(a.Name, c.Name) {
				for _, before := range names {
					common[[2]string{before, c.Name}] = true
				}
				names = append(names, c.Name)
			}
		}
		l, e := Contests(m, s, a.Name)
		check(t, "Contests", []any{l, e}, []any{names, api.OK})
	}
	var pairs [][2]string
	for p := range common {
		pairs = append(pairs, p)
	}
	slices.SortFunc(pairs, func(a, b [2]string) int { return slices.Compare(a[:], b[:]) }) // the meeting has its contests in this order
	l, e := Clashes(m, s)
	check(t, "Clashes", []any{l, e}, []any{pairs, api.OK})
}

func checkLists(t *testing.T, m Meeting, s State, d *desk, contest string) {
	t.Helper()
	var entries []Entry
	var names []string
	for _, i := range d.list(contest) {
		entries = append(entries, s.Entries[i])
		names = append(names, s.Entries[i].Athlete)
	}
	list, e := List(m, s, contest)
	check(t, "List", []any{list, e}, []any{entries, api.OK})
	accepted, reserves := d.divide(contest, true)
	starters, _ := d.divide(contest, false)
	check(t, "the lists", lists(t, m, s, contest), []any{names, accepted, reserves, starters})
	if len(accepted)+len(reserves) != len(list) {
		t.Errorf("accepted are %v, reserves %v, of %v", accepted, reserves, list)
	}
	for _, name := range accepted {
		check(t, "Eligible of who is accepted", Eligible(m, s, name, contest), api.OK)
	}
}

// TestRandomWithdrawals checks whom the withdrawal of a reserve, or of an accepted entry, concerns.
func TestRandomWithdrawals(t *testing.T) {
	r := rand.New(rand.NewSource(2))
	moved := 0
	for range 600 {
		m := randomMeeting(r)
		acts := randomActs(r, m)
		d := newDesk(m)
		d.replay(acts)
		if d.latest > m.Day {
			continue
		}
		contest := pick(r, "c0", "c1", "c2")
		accepted, reserves := d.divide(contest, true)
		for _, name := range append(append([]string{}, accepted...), reserves...) {
			l, e := Changed(m, acts, append(slices.Clone(acts), withdrawAct(m.Day, name, contest)), contest)
			check(t, "Changed", e, api.OK)
			others := slices.DeleteFunc(slices.Clone(l), func(other string) bool { return other == name })
			if len(others) == len(l) {
				t.Errorf("the withdrawal of %s changes %v", name, l)
			}
			if slices.Contains(reserves, name) {
				check(t, "the others if a reserve withdraws", others, []string{})
				continue
			}
			if len(others) > 1 || len(others) == 1 && !slices.Contains(reserves, others[0]) {
				t.Errorf("the withdrawal of %s, of %v accepted and %v reserves, changes %v", name, accepted, reserves, l)
			}
			moved += len(others)
		}
	}
	if moved == 0 {
		t.Error("no reserve moves up")
	}
}

// TestRandomChanges compares the places after two lists of acts.
func TestRandomChanges(t *testing.T) {
	r := rand.New(rand.NewSource(3))
	for range 1000 {
		m := randomMeeting(r)
		a := randomActs(r, m)
		b := slices.Delete(slices.Clone(a), 12+r.Intn(len(a)-12), len(a))
		for range r.Intn(5) {
			b = append(b, randomAct(r, m, 7995+r.Intn(8)))
		}
		for _, contest := range []string{"c0", "c1", "c2"} {
			got, e := Changed(m, a, b, contest)
			check(t, "Changed", []any{got, e}, []any{differences(m, a, b, contest), api.OK})
			back, e := Changed(m, b, a, contest)
			check(t, "Changed the other way", []any{back, e}, []any{got, api.OK})
		}
	}
}

// differences returns whose place is not the same after two lists of acts, by the desk.
func differences(m Meeting, a, b []Act, contest string) []string {
	var places [2]map[string]string
	for i, l := range [][]Act{a, b} {
		d := newDesk(m)
		d.replay(l)
		places[i] = map[string]string{}
		accepted, reserves := d.divide(contest, true)
		for _, name := range accepted {
			places[i][name] = "accepted"
		}
		for _, name := range reserves {
			places[i][name] = "reserve"
		}
	}
	var names []string
	for _, name := range []string{"ann", "bob", "cat", "dan", "eve", "fay", "gus"} {
		if places[0][name] != places[1][name] {
			names = append(names, name)
		}
	}
	return names
}

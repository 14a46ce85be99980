package track

import (
	"fmt"
	"math/rand"
	"slices"
	"strings"
	"testing"

	"stadion/api"
)

// team returns the names in a text.
func team(s string) []string { return strings.Fields(s) }

// teams returns the teams in a text, between bars.
func teams(s string) [][]string {
	var l [][]string
	for _, x := range strings.Split(s, "|") {
		l = append(l, team(x))
	}
	return l
}

// many returns so many different names.
func many(n int) []string {
	var l []string
	for i := range n {
		l = append(l, fmt.Sprint("r", i))
	}
	return l
}

func TestCheckTeam(t *testing.T) {
	for _, x := range []struct {
		what string
		team []string
		want api.Errno
	}{
		{"a team", team("a b c d"), api.OK},
		{"long names", team(strings.Repeat("a", 24) + " B_1 C2 d"), api.OK},
		{"nobody", nil, api.ErrShape},
		{"a name less", team("a b c"), api.ErrShape},
		{"a name more", team("a b c d e"), api.ErrShape},
		{"too few, one of them none", []string{"", "a"}, api.ErrShape},
		{"an empty name", []string{"a", "b", "c", ""}, api.ErrName},
		{"a name that is too long", team("a b c " + strings.Repeat("a", 25)), api.ErrName},
		{"a digit in front", team("a b 1c d"), api.ErrName},
		{"a foreign letter", team("a b é d"), api.ErrName},
		{"a name twice", team("a b c a"), api.ErrTwice},
		{"a name twice side by side", team("a b b d"), api.ErrTwice},
		{"different letters", team("a b A B"), api.OK},
		{"twice, then none", team("a a - d"), api.ErrTwice},
		{"none, then twice", team("a - a d"), api.ErrName},
		{"none twice", team("a - - d"), api.ErrName},
	} {
		check(t, x.what, CheckTeam(relay(), x.team), x.want)
	}
	check(t, "a team of two", CheckTeam(Relay{[]int{5, 5}, 1, 0}, team("a b")), api.OK)
	checkOfRelay(t, "CheckTeam", func(r Relay) (any, api.Errno) { return nil, CheckTeam(r, nil) })
}

func TestCheckTeams(t *testing.T) {
	for _, x := range []struct {
		what     string
		teams    string
		reserves string
		at       int
		want     api.Errno
	}{
		{"one team", "a b c d", "", 0, api.OK},
		{"one team with reserves", "a b c d", "e f g", 0, api.OK},
		{"another order", "a b c d|d c b a", "", 0, api.OK},
		{"a substitute", "a b c d|a b c e", "e f g", 0, api.OK},
		{"two substitutes", "a b c d|b a e f", "e f g", 0, api.OK},
		{"three substitutes at once", "a b c d|a e f g", "e f g", 1, api.ErrRule},
		{"three substitutes one after another", "a b c d|e b c d|a f c d|a b g d", "e f g", 3, api.ErrRule},
		{"three substitutes in two rounds", "a b c d|b a e f|a b g d", "e f g", 2, api.ErrRule},
		{"two substitutes once more", "a b c d|b a e f|a f e c|e f a b", "e f g", 0, api.OK},
		{"back to the first team", "a b c d|a b e f|c d a b|e b c d", "e f g", 0, api.OK},
		{"another one after two substitutes", "a b c d|b a e f|a b c d|a b g d", "e f g", 3, api.ErrRule},
		{"nobody's reserve", "a b c d|a b c h", "e f g", 1, api.ErrUnknown},
		{"no reserves", "a b c d|a b c e", "", 1, api.ErrUnknown},
		{"an unknown one among three substitutes", "a b c d|h e f g", "e f g", 1, api.ErrUnknown},
		{"three substitutes, then an unknown one", "a b c d|e f g h", "e f g", 1, api.ErrUnknown},
		{"three substitutes, then an unknown one in the next team", "a b c d|a e f g|h b c d", "e f g", 1, api.ErrRule},
		{"a substitute of the team before alone", "a b c d|a b c e|a b c f", "e", 2, api.ErrUnknown},
		{"a team that is too short", "a b c d|a b", "e", 1, api.ErrShape},
		{"a team with a wrong name", "a b c d|a b c -", "e", 1, api.ErrName},
		{"a team with a name twice", "a b c d|a b c d|a b c c", "e", 2, api.ErrTwice},
		{"an unknown one in a team with a name twice", "a b c d|h b c c", "e", 1, api.ErrTwice},
		{"a first team with a name twice", "a a c d|a b", "e", 0, api.ErrTwice},
		{"a first team that is too long", "a b c d e|a b c d", "e", 0, api.ErrShape},
		{"a reserve of the first team", "a b c d|b a c d", "a b", 0, api.OK},
		{"reserves of the first team are no substitutes", "a b c d|b a e f", "a b c e f", 0, api.OK},
		{"a wrong reserve", "a b c d|a b c h", "e -", 0, api.ErrName},
		{"a reserve twice", "a b c d", "e f e", 0, api.ErrTwice},
		{"a reserve twice, then a wrong one", "a b c d", "e e -", 0, api.ErrTwice},
		{"a wrong reserve, then one twice", "a b c d", "e - e", 0, api.ErrName},
		{"a wrong reserve ahead of a wrong team", "a b", "-", 0, api.ErrName},
		{"eight teams", strings.Repeat("a b c d|", 7) + "d c b a", "", 0, api.OK},
		{"the eighth team", strings.Repeat("a b c d|", 7) + "d c b e", "", 7, api.ErrUnknown},
		{"nine teams", strings.Repeat("a b c d|", 8) + "a b c d", "", 0, api.ErrMany},
		{"nine wrong teams", strings.Repeat("-|", 8) + "-", "-", 0, api.ErrMany},
	} {
		at, e := CheckTeams(relay(), teams(x.teams), team(x.reserves))
		check(t, x.what, []any{at, e}, []any{x.at, x.want})
		l, e := Members(relay(), teams(x.teams), team(x.reserves))
		check(t, "Members, "+x.what, e, x.want)
		if e != api.OK {
			checkNothing(t, "Members", l)
		}
	}
}

func TestManyTeamsAndReserves(t *testing.T) {
	one := teams("a b c d")
	for _, x := range []struct {
		what     string
		teams    [][]string
		reserves []string
		want     api.Errno
	}{
		{"no teams", nil, nil, api.ErrEmpty},
		{"no teams, too many reserves", nil, many(17), api.ErrEmpty},
		{"too many teams and reserves", make([][]string, 9), many(17), api.ErrMany},
		{"an empty team", [][]string{nil}, nil, api.ErrShape},
		{"16 reserves", one, many(16), api.OK},
		{"17 reserves", one, many(17), api.ErrMany},
		{"17 wrong reserves", one, make([]string, 17), api.ErrMany},
		{"too many reserves ahead of a wrong team", make([][]string, 1), many(17), api.ErrMany},
		{"the last reserve", teams("a b c d|a b c r15"), many(16), api.OK},
	} {
		at, e := CheckTeams(relay(), x.teams, x.reserves)
		check(t, x.what, []any{at, e}, []any{0, x.want})
		_, e = Members(relay(), x.teams, x.reserves)
		check(t, "Members, "+x.what, e, x.want)
	}
	checkOfRelay(t, "CheckTeams", func(r Relay) (any, api.Errno) { return CheckTeams(r, nil, nil) })
	checkOfRelay(t, "Members", func(r Relay) (any, api.Errno) { return Members(r, nil, nil) })
}

func TestMembers(t *testing.T) {
	for _, x := range []struct {
		teams, reserves, want string
	}{
		{"a b c d", "e f g", "a b c d"},
		{"d c b a", "", "a b c d"},
		{"a b c d|b a f e", "e f g", "a b c d e f"},
		{"d c B A|d c B Z_|d c B a1|d c B A", "a1 Z_ x", "A B Z_ a1 c d"},
		{"x10 x9 x1 x", "", "x x1 x10 x9"},
	} {
		l, e := Members(relay(), teams(x.teams), team(x.reserves))
		check(t, "the members", l, team(x.want))
		check(t, "Members", e, api.OK)
	}
}

func TestMemoryOfTeams(t *testing.T) {
	l, reserves := teams("d c b a|a b f e"), team("f e")
	Members(relay(), l, reserves)
	CheckTeams(relay(), l, reserves)
	check(t, "the arguments", []any{l, reserves}, []any{teams("d c b a|a b f e"), team("f e")})
}

// judged returns the error of teams with right names and shapes, by the definition of a change: each team is judged anew by all teams up to it.
func judged(l [][]string, reserves []string) (int, api.Errno) {
	for i, team := range l {
		for _, name := range team {
			if !slices.Contains(l[0], name) && !slices.Contains(reserves, name) {
				return i, api.ErrUnknown
			}
		}
		others := slices.Concat(l[:i+1]...)
		others = slices.DeleteFunc(others, func(name string) bool { return slices.Contains(l[0], name) })
		slices.Sort(others)
		if len(slices.Compact(others)) > 2 {
			return i, api.ErrRule
		}
	}
	return 0, api.OK
}

func TestRandomTeams(t *testing.T) {
	r := rand.New(rand.NewSource(9))
	results := map[api.Errno]int{}
	for range 5000 {
		l := teams("a b c d")
		reserves := team("e f g h i")[:2+r.Intn(4)]
		for range r.Intn(8) {
			next := slices.Clone(l[r.Intn(len(l))])
			if r.Intn(2) == 0 {
				next[r.Intn(4)] = team("e f g h")[r.Intn(4)]
			}
			r.Shuffle(4, func(i, j int) { next[i], next[j] = next[j], next[i] })
			if CheckTeam(relay(), next) == api.OK {
				l = append(l, next)
			}
		}
		at, want := judged(l, reserves)
		results[want]++
		got, e := CheckTeams(relay(), l, reserves)
		check(t, "CheckTeams", []any{got, e}, []any{at, want})
		members, e := Members(relay(), l, reserves)
		check(t, "Members", e, want)
		if e != api.OK {
			checkNothing(t, "Members", members)
			continue
		}
		all := slices.Concat(l...)
		slices.Sort(all)
		check(t, "the members", members, slices.Compact(all))
	}
	for _, e := range []api.Errno{api.OK, api.ErrUnknown, api.ErrRule} {
		if results[e] < 200 {
			t.Errorf("the results are %v", results)
		}
	}
}

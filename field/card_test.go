package field

import (
	"slices"
	"strings"
	"testing"

	"stadion/api"
)

func TestPrintCard(t *testing.T) {
	for _, x := range formCases() {
		s, e := PrintCard(x.c)
		check(t, "PrintCard: "+x.what, e, x.want)
		if e != api.OK {
			checkNothing(t, x.what, s)
		}
	}
	for _, x := range []struct {
		c    Card
		want string
	}{
		{card("ann"), "ann:"},
		{card("ann r"), "ann: retired"},
		{card("ann o"), "ann: o"},
		{card("ann o xo xxo - x- o xx- x"), "ann: o xo xxo - x- o xx- x"},
		{card("ann o xxx | x o"), "ann: o xxx | x o"},
		{card("ann o xx r"), "ann: o xx retired"},
		{card("ann o | x r"), "ann: o | x retired"},
		{card("ann | x"), "ann: | x"},
		{card("ann | x r"), "ann: | x retired"},
		{card("retired"), "retired:"},
		{card("retired r"), "retired: retired"},
	} {
		s, e := PrintCard(x.c)
		check(t, "PrintCard", s, x.want)
		check(t, "PrintCard", e, api.OK)
		c, e := ParseCard(x.want)
		check(t, "ParseCard", c, x.c)
		check(t, "ParseCard", e, api.OK)
	}
}

func TestErrorsOfParseCard(t *testing.T) {
	long := strings.Repeat("a", 24) + ":" + strings.Repeat(" -", 24)
	for _, x := range []struct {
		text string
		want api.Errno
	}{
		{"ann: " + strings.Repeat("x", 4092), api.ErrLong},
		{"ann: " + strings.Repeat("x", 4091), api.ErrForm},
		{strings.Repeat(" ", 4097), api.ErrLong},
		{strings.Repeat(" ", 4096), api.ErrSyntax},
		{"ann:" + strings.Repeat(" x", 2046), api.ErrMany},
		{"ann:" + strings.Repeat(" ?", 25), api.ErrMany},
		{"ann: |" + strings.Repeat(" ?", 25), api.ErrMany},
		{long, api.OK},
		{"a" + long, api.ErrName},
		{long + " -", api.ErrMany},
		// the name
		{"", api.ErrSyntax},
		{":", api.ErrSyntax},
		{": o", api.ErrSyntax},
		{"ann", api.ErrSyntax},
		{"ann o", api.ErrSyntax},
		{"retired", api.ErrSyntax},
		{" ann:", api.ErrSyntax},
		{"ann :", api.ErrSyntax},
		{"ann b: o", api.ErrSyntax},
		{"ann|b: o", api.ErrSyntax},
		{"|: o", api.ErrSyntax},
		{"1a: o", api.ErrName},
		{"ann\t: o", api.ErrName},
		{"\xff: ?", api.ErrName},
		{"ann-b: x o", api.ErrName},
		// the texts
		{"ann:", api.OK},
		{"ann: ", api.ErrSyntax},
		{"ann:o", api.ErrSyntax},
		{"ann::", api.ErrSyntax},
		{"ann:: o", api.ErrSyntax},
		{"ann:  o", api.ErrSyntax},
		{"ann: o  o", api.ErrSyntax},
		{"ann: o ", api.ErrSyntax},
		{"ann: o:", api.ErrSyntax},
		{"ann: o: o", api.ErrSyntax},
		{"ann: : o", api.ErrSyntax},
		{"1a: o:", api.ErrSyntax},
		{"ann: ?:?", api.ErrSyntax},
		{"ann:\to", api.ErrSyntax},
		{"ann: o\to", api.ErrForm},
		{"ann: o\n", api.ErrForm},
		{"ann: \xff", api.ErrForm},
		{"ann: é", api.ErrForm},
		{"ann: O", api.ErrForm},
		{"ann: ox", api.ErrForm},
		{"ann: x o", api.ErrState},
		{"ann: xx- xo", api.ErrState},
		{"ann: x o ox", api.ErrForm},
		// the jump-off
		{"ann: |", api.ErrSyntax},
		{"ann:|", api.ErrSyntax},
		{"ann: o |", api.ErrSyntax},
		{"ann: o | ", api.ErrSyntax},
		{"ann: o |  x", api.ErrSyntax},
		{"ann: o  | x", api.ErrSyntax},
		{"ann: o | x ", api.ErrSyntax},
		{"ann: o | x | o", api.ErrSyntax},
		{"ann: o | |", api.ErrSyntax},
		{"ann: o || x", api.ErrSyntax},
		{"ann: o |x", api.ErrSyntax},
		{"ann: o| x", api.ErrSyntax},
		{"ann: o x|", api.ErrSyntax},
		{"ann: o | x:", api.ErrSyntax},
		{"ann: o | -", api.ErrForm},
		{"ann: o | xo", api.ErrForm},
		{"ann: ? | x |", api.ErrSyntax},
		{"ann: x o | -", api.ErrForm},
		// retired
		{"ann: retired ", api.ErrSyntax},
		{"ann: retired retired", api.ErrForm},
		{"ann: retired o", api.ErrForm},
		{"ann: retired | x", api.ErrForm},
		{"ann: | retired", api.ErrSyntax},
		{"ann: o | retired", api.ErrSyntax},
		{"ann: o | retired x", api.ErrForm},
		{"ann: o | retired retired", api.ErrForm},
		{"ann: o | x retired retired", api.ErrForm},
		{"ann: o | x retired o", api.ErrForm},
		{"ann: o retired | x retired", api.ErrForm},
		{"ann: retired | x retired", api.ErrForm},
		{"ann: x o retired", api.ErrState},
		{"ann: o Retired", api.ErrForm},
		{"ann:retired", api.ErrSyntax},
	} {
		c, e := ParseCard(x.text)
		check(t, x.text, e, x.want)
		if e != api.OK {
			checkNothing(t, x.text, c)
		}
	}
}

// TestLongCards checks that a card with very many texts is no longer than it may be, without going through them.
func TestLongCards(t *testing.T) {
	for _, c := range []Card{{Athlete: "ann", Heights: slices.Repeat([]string{"o"}, 1000000)}, {Athlete: "ann", Off: slices.Repeat([]string{"o"}, 1000000)}} {
		_, e := PrintCard(c)
		check(t, "very many texts", e, api.ErrMany)
		c.Athlete = ""
		_, e = PrintCard(c)
		check(t, "very many texts without a name", e, api.ErrName)
	}
}

func TestOthersOfCards(t *testing.T) {
	c, _ := ParseCard("ann: o o | x x")
	c.Heights = append(c.Heights, "a", "b", "c")
	check(t, "the jump-off", c.Off, []string{"x", "x"})
	c.Off = append(c.Off, "d", "e")
	check(t, "the heights", c.Heights, []string{"o", "o", "a", "b", "c"})
	given := card("ann o o | x x r")
	given.Heights = append(make([]string, 0, 9), given.Heights...)
	PrintCard(given)
	check(t, "behind the heights", given.Heights[:9], []string{"o", "o", "", "", "", "", "", "", ""})
}

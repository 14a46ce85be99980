package field

import (
	"slices"
	"strings"

	"stadion/api"
)

// The letters of a card.
const (
	clearance = attempt("o")
	failure   = attempt("x")
	pass      = attempt("-")
)

// mostFailures is the number of failures in a row with which an athlete is out.
const mostFailures = 3

// split returns the number of failures at the beginning of a text of a height, and what stands behind them.
func split(text string) (int, attempt) {
	for i, letter := range text {
		if string(letter) != string(failure) {
			return i, attempt(text[i:])
		}
	}
	return len(text), ""
}

// inARow returns the failures in a row at the end of texts.
func inARow(texts []string) int {
	row := 0
	for _, text := range texts {
		failed, end := split(text)
		row += failed
		if end == clearance {
			row = 0
		}
	}
	return row
}

// formError returns the error of the form of a card.
func formError(c Card) api.Errno {
	tooMany := len(c.Heights) > api.MaxHeights || len(c.Off) > api.MaxHeights
	if e := first(nameError(c.Athlete), when(tooMany, api.ErrMany)); e != api.OK {
		return e
	}
	return first(
		firstOf(c.Heights, heightTextError),
		firstOf(c.Off, offTextError),
		firstOf(c.Heights, func(place int, _ string) api.Errno { return placeError(c.Heights, place) }))
}

func heightTextError(_ int, text string) api.Errno {
	_, end := split(text)
	known := end == "" || end == clearance || end == pass
	return when(!known || len(text) < 1 || len(text) > mostFailures, api.ErrForm)
}

func offTextError(_ int, text string) api.Errno {
	return when(text != string(clearance) && text != string(failure), api.ErrForm)
}

// placeError returns the error of a text among the others.
func placeError(texts []string, place int) api.Errno {
	failed, end := split(texts[place])
	row := inARow(texts[:place]) + failed
	goesOn := end == "" && place < len(texts)-1
	return when(row > mostFailures || row == mostFailures && end != "" || goesOn, api.ErrState)
}

// PrintCard returns the text of a card.
func PrintCard(c Card) (string, api.Errno) {
	if e := formError(c); e != api.OK {
		return "", e
	}
	words := append([]string{c.Athlete + ":"}, c.Heights...)
	if len(c.Off) > 0 {
		words = append(append(words, "|"), c.Off...)
	}
	if c.Retired {
		words = append(words, "retired")
	}
	return strings.Join(words, " "), api.OK
}

// ParseCard returns the card with a text.
func ParseCard(s string) (Card, api.Errno) {
	if len(s) > api.MaxText {
		return Card{}, api.ErrLong
	}
	c, read := readCard(s)
	if !read {
		return Card{}, api.ErrSyntax
	}
	if e := formError(c); e != api.OK {
		return Card{}, e
	}
	return c, api.OK
}

// readCard returns the card of a name and texts that may be any words, or false.
func readCard(s string) (Card, bool) {
	name, rest, found := strings.Cut(s, ":")
	words := strings.Split(rest, " ")
	if !found || words[0] != "" {
		return Card{}, false
	}
	c := Card{Athlete: name, Heights: words[1:]}
	if last := len(c.Heights) - 1; last >= 0 && c.Heights[last] == "retired" {
		c.Retired = true
		c.Heights = c.Heights[:last]
	}
	if bar := slices.Index(c.Heights, "|"); bar >= 0 {
		c.Heights, c.Off = slices.Clone(c.Heights[:bar]), slices.Clone(c.Heights[bar+1:])
		if len(c.Off) == 0 {
			return Card{}, false
		}
	}
	return c, allWords(name) && allWords(c.Heights...) && allWords(c.Off...)
}

// allWords reports whether all texts have at least one byte, and neither blanks nor colons nor bars.
func allWords(l ...string) bool {
	return !slices.ContainsFunc(l, func(word string) bool { return word == "" || strings.ContainsAny(word, " :|") })
}

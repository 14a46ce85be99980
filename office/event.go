package office

import (
	"strconv"
	"strings"

	"stadion/api"
)

// kind is what the events of a kind have in common: how many names and values they have, whether they have a text, and what they do to a history.
type kind struct {
	names  int
	values int
	text   bool
	happen func(h *history, e api.Event) api.Errno
}

func kinds() map[string]kind {
	return map[string]kind{
		"publish":   {1, 0, true, counting(publish)},
		"correct":   {2, 0, true, counting(ofEntrant(correct))},
		"strike":    {2, 0, false, counting(ofEntrant(strike))},
		"reinstate": {2, 0, false, counting(ofEntrant(reinstate))},
		"protest":   {2, 0, false, counting(ofEntrant(protest))},
		"decide":    {0, 2, false, counting(ofProtest(decide))},
		"appeal":    {0, 1, false, counting(ofProtest(appeal))},
		"rule":      {0, 2, false, counting(ofProtest(rule))},
		"confirm":   {1, 0, false, counting(ofSheet(confirm))},
		"void":      {1, 0, false, counting(ofSheet(void))},
		"undo":      {0, 0, false, undo},
	}
}

// CheckEvent returns the first error of an event by itself, or OK.
func CheckEvent(e api.Event) api.Errno {
	k, known := kinds()[e.Kind]
	err := first(
		rangeError(e.Number, 1, api.MaxEvents),
		when(!known, api.ErrKind),
		when(len(e.Names) != k.names || len(e.Values) != k.values, api.ErrShape))
	if err != api.OK {
		return err
	}
	return first(
		firstOf(e.Names, func(_ []string, name string) api.Errno { return nameError(name) }),
		firstOf(e.Values, func(_ []int, n int) api.Errno { return rangeError(n, 0, api.MaxNumber) }),
		when(!k.text && e.Text != "" || strings.Contains(e.Text, "\n"), api.ErrForm),
		when(len(e.Text) > api.MaxText, api.ErrLong))
}

// body returns the body of an event.
func body(e api.Event) string {
	words := append([]string{strconv.Itoa(e.Number), e.Kind}, e.Names...)
	words = append(words, each(e.Values, strconv.Itoa)...)
	if kinds()[e.Kind].text {
		words = append(words, e.Text)
	}
	return joined(words...)
}

// joined returns words with one blank between two of them.
func joined(words ...string) string {
	return strings.Join(words, " ")
}

// readBody reads the body of an event of any names and numbers.
func readBody(text string) (api.Event, bool) {
	word, rest, more := strings.Cut(text, " ")
	number, ok := readInteger(word)
	if !ok || !more {
		return api.Event{}, false
	}
	return readEvent(number, rest)
}

// readEvent reads the body of an event without its number.
func readEvent(number int, text string) (api.Event, bool) {
	name, _, _ := strings.Cut(text, " ")
	k, known := kinds()[name]
	words := k.split(text)
	if !known || len(words) != k.words() {
		return api.Event{}, false
	}
	names, namesOK := readAll(words[1:1+k.names], readWord)
	values, valuesOK := readAll(words[1+k.names:1+k.names+k.values], readInteger)
	if !namesOK || !valuesOK {
		return api.Event{}, false
	}
	e := api.Event{Number: number, Kind: name, Names: names, Values: values}
	if k.text {
		e.Text = words[len(words)-1]
	}
	return e, true
}

// readAll reads words, each one by itself.
func readAll[T any](words []string, read func(word string) (T, bool)) ([]T, bool) {
	var list []T
	for _, word := range words {
		x, ok := read(word)
		if !ok {
			return nil, false
		}
		list = append(list, x)
	}
	return list, true
}

// readWord reads a word that need not be a name.
func readWord(word string) (string, bool) {
	return word, word != ""
}

// words returns how many words the body of an event has without its number, if the text is one word.
func (k kind) words() int {
	count := 1 + k.names + k.values
	if k.text {
		count++
	}
	return count
}

// split returns the words of a body without its number. A text is the last one, whatever it has in it.
func (k kind) split(text string) []string {
	if k.text {
		return strings.SplitN(text, " ", k.words())
	}
	return strings.Split(text, " ")
}

// readInteger reads an integer of at most 9 digits, without a sign and without zeros at the beginning.
func readInteger(word string) (int, bool) {
	if len(word) > len(strconv.Itoa(api.MaxNumber)) {
		return 0, false
	}
	n, err := strconv.Atoi(word)
	return n, err == nil && n >= 0 && strconv.Itoa(n) == word
}

package office

import (
	"iter"
	"strings"

	"stadion/api"
)

const (
	sumLetters = 5
	alphabet   = 26
	sums       = 11881376 // alphabet to the power of sumLetters
)

// checkSum returns the check sum of a text.
func checkSum(text string) string {
	sum := 0
	for i := range len(text) {
		sum = (sum + (i+1)*(int(text[i])+7)) % sums
	}
	var letters [sumLetters]byte
	for i := range letters {
		letters[sumLetters-1-i] = 'a' + byte(sum%alphabet)
		sum /= alphabet
	}
	return string(letters[:])
}

func isCheckSum(text string) bool {
	return len(text) == sumLetters && strings.Trim(text, "abcdefghijklmnopqrstuvwxyz") == ""
}

// record returns the record of an event.
func record(e api.Event) string {
	text := body(e)
	return joined(checkSum(text), text) + "\n"
}

// records goes through the lines of a log, and tells of each one whether it ends with its line feed, which is left out.
func records(log string) iter.Seq2[string, bool] {
	return func(yield func(line string, whole bool) bool) {
		for rest := log; rest != ""; {
			line, after, whole := strings.Cut(rest, "\n")
			if !yield(line, whole) {
				return
			}
			rest = after
		}
	}
}

// readRecord reads the record of the event with a number.
func readRecord(line string, number int) (api.Event, api.Errno) {
	sum, text, found := strings.Cut(line, " ")
	e, ok := readBody(text)
	err := first(
		when(!found || !isCheckSum(sum), api.ErrSyntax),
		when(sum != checkSum(text), api.ErrCheck),
		when(!ok || CheckEvent(e) != api.OK, api.ErrSyntax),
		when(e.Number != number, api.ErrOrder))
	if err != api.OK {
		return api.Event{}, err
	}
	return e, api.OK
}

// Recover returns the events of the longest beginning that is a log.
func Recover(log string) ([]api.Event, int, api.Errno) {
	if len(log) > api.MaxLog {
		return nil, 0, api.ErrLong
	}
	var l []api.Event
	length := 0
	for line, whole := range records(log) {
		if !whole {
			return l, length, api.ErrTorn
		}
		e, err := readRecord(line, len(l)+1)
		if err != api.OK {
			return l, length, err
		}
		l = append(l, e)
		length += len(line) + 1
	}
	return l, length, api.OK
}

// Append returns a log with a further record.
func Append(log string, e api.Event) (string, api.Errno) {
	l, _, err := Recover(log)
	if err = first(err, CheckEvent(e), when(e.Number != len(l)+1, api.ErrOrder)); err != api.OK {
		return "", err
	}
	longer := log + record(e)
	if len(longer) > api.MaxLog {
		return "", api.ErrLong
	}
	return longer, api.OK
}

package office

import (
	"fmt"
	"slices"
	"strings"
	"testing"

	"stadion/api"
)

func TestCheckSum(t *testing.T) {
	for text, want := range map[string]string{
		"": "aaaaa", "\x00": "aaaah", "\x00\x00": "aaaav", "a": "aaaea", "ab": "aaamc", "ba": "aaamb", "\xff": "aaakc",
		// 262 times the sum of the numbers up to 301, which is 45451, is 11908162: 26786 more than 26 to the power of 5
		strings.Repeat("\xff", 301): "abnqg",
		// 262 times 45150, the sum up to 300, is 11829300, less than 26 to the power of 5
		strings.Repeat("\xff", 300): "zxazc",
	} {
		check(t, fmt.Sprintf("the check sum of %.9q", text), checkSum(text), want)
		check(t, fmt.Sprintf("the sum of %.9q", text), sumOf(text), want)
	}
}

// sumOf returns the check sum of a text by its definition, from the last letter on.
func sumOf(text string) string {
	sum := 0
	for i, b := range []byte(text) {
		sum += (i + 1) * (int(b) + 7)
	}
	letters := ""
	for range 5 {
		letters = string(rune('a'+sum%26)) + letters
		sum /= 26
	}
	return letters
}

// recordOf returns the record with a body.
func recordOf(body string) string { return sumOf(body) + " " + body + "\n" }

// exampleBodies are the bodies of the events of the chapter's examples, and of one of each other kind.
func exampleBodies() []string {
	return []string{"1 publish final ann=10.50 bea=10.40 cat=DNF", "2 protest final bea", "3 decide 2 1", "4 appeal 2", "5 rule 2 0",
		"6 correct final cat 10.5", "7 strike final ann", "8 reinstate final ann", "9 confirm final", "10 void final", "11 undo"}
}

func exampleEvents() []api.Event {
	return events(example(5, "correct final cat 10.5", "strike final ann", "reinstate final ann", "confirm final", "void final", "undo")...)
}

func TestAppend(t *testing.T) {
	log := ""
	for i, e := range exampleEvents() {
		next, err := Append(log, e)
		checkBoth(t, fmt.Sprint("the log ", i), next, err, log+recordOf(exampleBodies()[i]), api.OK)
		log = next
	}
	l, length, e := Recover(log)
	check(t, "the events", []any{l, length, e}, []any{exampleEvents(), len(log), api.OK})
}

// TestAppendAccepts appends events that no office accepts.
func TestAppendAccepts(t *testing.T) {
	log, e := Append("", event(1, "publish final "))
	checkBoth(t, "a log", log, e, recordOf("1 publish final "), api.OK)
	log, e = Append(log, event(2, "rule 999999999 7"))
	checkBoth(t, "a longer log", log, e, recordOf("1 publish final ")+recordOf("2 rule 999999999 7"), api.OK)
	l, length, e := Recover(log)
	check(t, "the events", []any{l, length, e}, []any{[]api.Event{event(1, "publish final "), event(2, "rule 999999999 7")}, len(log), api.OK})
}

func TestErrorsOfAppend(t *testing.T) {
	log := recordOf("1 undo")
	for i, x := range []struct {
		log  string
		e    api.Event
		want api.Errno
	}{
		{strings.Repeat("x", 1000001), api.Event{}, api.ErrLong}, {log + "x", api.Event{}, api.ErrTorn}, {log + "x\n", event(2, "undo"), api.ErrSyntax}, {"a" + log, api.Event{}, api.ErrSyntax}, {log + log, event(2, "undo"), api.ErrOrder},
		{log, event(0, "undo"), api.ErrRange}, {log, event(1001, "undo"), api.ErrRange}, {log, event(7, "nothing"), api.ErrKind}, {log, event(7, "void"), api.ErrShape}, {log, event(7, "void 1"), api.ErrName},
		{log, event(1, "undo"), api.ErrOrder}, {log, event(3, "undo"), api.ErrOrder}, {"", event(2, "undo"), api.ErrOrder},
	} {
		got, e := Append(x.log, x.e)
		checkBoth(t, fmt.Sprint("the log ", i), got, e, nil, x.want)
	}
}

// longLog returns a log of as many bytes, which is a sum of records of at most 4127 bytes, and how many events it has.
func longLog(n int) (string, int) {
	var log strings.Builder
	count := 0
	for log.Len() < n {
		count++
		body := fmt.Sprint(count, " publish x ")
		left := n - log.Len() - len(body) - 7
		if left > 4096 {
			left = min(4096, left-100)
		}
		log.WriteString(recordOf(body + strings.Repeat("y", left)))
	}
	return log.String(), count
}

func TestLongestLog(t *testing.T) {
	log, count := longLog(1000000)
	l, length, e := Recover(log)
	check(t, "the longest log", []any{len(l), length, e}, []any{count, 1000000, api.OK})
	l, length, e = Recover(log + "x")
	check(t, "a log that is too long", []any{len(l), length, e}, []any{0, 0, api.ErrLong})
	next := event(count+1, "undo")
	record := len(recordOf(fmt.Sprint(count+1, " undo")))
	for n, want := range map[int]api.Errno{1000000: api.ErrLong, 1000000 - record + 1: api.ErrLong, 1000000 - record: api.OK} {
		log, _ := longLog(n)
		got, e := Append(log, next)
		check(t, fmt.Sprint("a record more than ", n, " bytes"), e, want)
		if want == api.OK {
			check(t, "the length", len(got), 1000000)
		} else {
			checkNothing(t, "Append", got)
		}
	}
}

func TestMostRecords(t *testing.T) {
	var log strings.Builder
	for i := range 1000 {
		log.WriteString(recordOf(fmt.Sprint(i+1, " undo")))
	}
	l, length, e := Recover(log.String())
	check(t, "1000 records", []any{len(l), length, e}, []any{1000, log.Len(), api.OK})
	l, length, e = Recover(log.String() + recordOf("1001 undo"))
	check(t, "1001 records", []any{len(l), length, e}, []any{1000, log.Len(), api.ErrSyntax})
	got, e := Append(log.String(), event(1000, "undo"))
	checkBoth(t, "Append to 1000 records", got, e, nil, api.ErrOrder)
}

func TestErrorsOfRecover(t *testing.T) {
	start := recordOf("1 undo") + recordOf("2 undo")
	for line, want := range map[string]api.Errno{
		"": api.OK, "a": api.ErrTorn, "aaaaa 3 undo": api.ErrTorn, strings.TrimSuffix(recordOf("3 undo"), "\n"): api.ErrTorn,
		"\n": api.ErrSyntax, "aaaaa\n": api.ErrSyntax, "aaaa 3 undo\n": api.ErrSyntax, "aaaaaa 3 undo\n": api.ErrSyntax, " aaaaa 3 undo\n": api.ErrSyntax, "aaaaA 3 undo\n": api.ErrSyntax, "aaaa{ 3 undo\n": api.ErrSyntax, "aaaa` 3 undo\n": api.ErrSyntax, "aaaa1 3 undo\n": api.ErrSyntax, "aaaaa\t3 undo\n": api.ErrSyntax,
		"aaaaa 3 undo\n": api.ErrCheck, "zzzzz 9 nothing\n": api.ErrCheck, sumOf("3 undo") + "  3 undo\n": api.ErrCheck, sumOf("3 undo") + " 3 undo \n": api.ErrCheck, "aaaab \n": api.ErrCheck,
		"aaaaa \n": api.ErrSyntax, recordOf("3"): api.ErrSyntax, recordOf("3 "): api.ErrSyntax, recordOf("undo"): api.ErrSyntax, recordOf("3 nothing"): api.ErrSyntax, recordOf("3 undo "): api.ErrSyntax, recordOf("3  undo"): api.ErrSyntax, recordOf(" 3 undo"): api.ErrSyntax,
		recordOf("03 undo"): api.ErrSyntax, recordOf("+3 undo"): api.ErrSyntax, recordOf("-3 undo"): api.ErrSyntax, recordOf("x undo"): api.ErrSyntax, recordOf("0 undo"): api.ErrSyntax, recordOf("1001 undo"): api.ErrSyntax, recordOf("18446744073709551619 undo"): api.ErrSyntax,
		recordOf("3 void"): api.ErrSyntax, recordOf("3 void "): api.ErrSyntax, recordOf("3 void 1"): api.ErrSyntax, recordOf("3 void a b"): api.ErrSyntax, recordOf("3 strike a"): api.ErrSyntax, recordOf("3 strike a  b"): api.ErrSyntax,
		recordOf("3 publish a"): api.ErrSyntax, recordOf("3 publish  b"): api.ErrSyntax, recordOf("3 publish 1 b"): api.ErrSyntax, recordOf("3 correct a b"): api.ErrSyntax, recordOf("3 correct a  b"): api.ErrSyntax,
		recordOf("3 appeal 02"): api.ErrSyntax, recordOf("3 appeal +2"): api.ErrSyntax, recordOf("3 appeal -2"): api.ErrSyntax, recordOf("3 appeal 1000000000"): api.ErrSyntax, recordOf("3 appeal x"): api.ErrSyntax, recordOf("3 appeal "): api.ErrSyntax, recordOf("3 appeal 1_0"): api.ErrSyntax, recordOf("3 rule 2"): api.ErrSyntax, recordOf("3 rule 2 00"): api.ErrSyntax,
		recordOf("3 publish a " + strings.Repeat("x", 4097)): api.ErrSyntax,
		recordOf("1 undo"): api.ErrOrder, recordOf("2 undo"): api.ErrOrder, recordOf("4 undo"): api.ErrOrder, recordOf("1000 undo"): api.ErrOrder,
	} {
		for _, rest := range []string{"", "x", "x\n", recordOf("3 undo"), recordOf("4 undo")} {
			if rest != "" && (want == api.OK || want == api.ErrTorn) {
				continue
			}
			l, length, e := Recover(start + line + rest)
			check(t, fmt.Sprintf("%.30q and %q", line, rest), []any{l, length, e}, []any{events("undo", "undo"), len(start), want})
		}
	}
}

// TestBodies reads and writes bodies with what may look wrong.
func TestBodies(t *testing.T) {
	for _, e := range []api.Event{
		{Number: 1, Kind: "publish", Names: []string{"a"}}, {Number: 1, Kind: "publish", Names: []string{"a"}, Text: " "}, {Number: 1, Kind: "publish", Names: []string{"a"}, Text: "  b  c "}, {Number: 1, Kind: "publish", Names: []string{"a"}, Text: "\x00\r\xff"},
		{Number: 1, Kind: "correct", Names: []string{"a", "b"}}, {Number: 1, Kind: "correct", Names: []string{"a", "b"}, Text: "c d"}, {Number: 1, Kind: "publish", Names: []string{strings.Repeat("a", 24)}, Text: strings.Repeat("x", 4096)},
		{Number: 1, Kind: "rule", Values: []int{0, 0}}, {Number: 1, Kind: "decide", Values: []int{999999999, 999999999}}, {Number: 1, Kind: "void", Names: []string{"undo"}},
	} {
		log, err := Append("", e)
		check(t, fmt.Sprintf("the error of %.50q", log), err, api.OK)
		l, length, err := Recover(log)
		check(t, fmt.Sprintf("the events of %.50q", log), []any{l, length, err}, []any{[]api.Event{e}, len(log), api.OK})
	}
}

// TestTornLogs cuts a log off at each byte.
func TestTornLogs(t *testing.T) {
	log, ends := "", []int{0}
	for _, body := range exampleBodies() {
		log += recordOf(body)
		ends = append(ends, len(log))
	}
	for n := range len(log) + 1 {
		whole, isEnd := slices.BinarySearch(ends, n)
		want := api.OK
		if !isEnd {
			whole, want = whole-1, api.ErrTorn
		}
		l, length, e := Recover(log[:n])
		check(t, fmt.Sprint("the first ", n, " bytes"), []any{l, length, e}, []any{exampleEvents()[:whole], ends[whole], want})
	}
}

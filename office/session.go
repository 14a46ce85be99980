package office

import (
	"slices"
	"strconv"
	"strings"

	"stadion/api"
	"stadion/mark"
)

// New returns a session without events.
func New() *Session {
	return new(Session)
}

// Load returns the session with a log.
func Load(log string) (*Session, api.Errno) {
	l, _, e := Recover(log)
	if e != api.OK && e != api.ErrTorn {
		return nil, e
	}
	h, _, e := replay(l, showNothing)
	if e != api.OK {
		return nil, e
	}
	return &Session{h}, api.OK
}

// Do does a line, and returns its answer.
func (s *Session) Do(line string) (string, api.Errno) {
	switch {
	case s == nil:
		return "", api.ErrState
	case len(line) > 2*api.MaxText:
		return "", api.ErrLong
	case line == "":
		return "", api.ErrSyntax
	}
	word, _, _ := strings.Cut(line, " ")
	if _, known := kinds()[word]; known {
		return s.tell(line)
	}
	if q, known := questions()[word]; known {
		return s.ask(q, line)
	}
	return "", api.ErrKind
}

// tell adds the event of a line.
func (s *Session) tell(line string) (string, api.Errno) {
	number := len(s.events) + 1
	e, ok := readEvent(number, line)
	err := first(
		when(!ok, api.ErrSyntax),
		when(number > api.MaxEvents, api.ErrMany))
	if err != api.OK {
		return "", err
	}
	if err := s.add(e); err != api.OK {
		return "", err
	}
	return answer("done", strconv.Itoa(number)), api.OK
}

// question is a question of the console: how many words it has, and what the elements of its answer are.
type question struct {
	words    int
	elements func(o Office, words []string) ([]string, api.Errno)
}

func questions() map[string]question {
	return map[string]question{
		"sheet":    {2, sheetElements},
		"places":   {2, placeElements},
		"protests": {1, protestElements},
		"races":    {1, raceElements},
	}
}

func (s *Session) ask(q question, line string) (string, api.Errno) {
	words := strings.Split(line, " ")
	if len(words) != q.words || slices.Contains(words, "") {
		return "", api.ErrSyntax
	}
	elements, e := q.elements(s.office(), words)
	if e != api.OK {
		return "", e
	}
	return answer(elements...), api.OK
}

// answer returns the answer with some elements.
func answer(elements ...string) string {
	if len(elements) == 0 {
		return "none"
	}
	return joined(elements...)
}

func sheetElements(o Office, words []string) ([]string, api.Errno) {
	s, e := Find(o, words[1])
	if e != api.OK {
		return nil, e
	}
	results := each(s.Results, func(r api.Result) string {
		text, _ := mark.Print(r.Mark)
		return r.Athlete + "=" + text
	})
	return append([]string{strconv.Itoa(s.Version), s.State}, results...), api.OK
}

func placeElements(o Office, words []string) ([]string, api.Errno) {
	places, e := Places(o, words[1])
	return each(places, func(p Place) string { return strconv.Itoa(p.Rank) + "." + p.Athlete }), e
}

func protestElements(o Office, _ []string) ([]string, api.Errno) {
	return each(o.Protests, func(p Protest) string {
		upheld := "no"
		if p.Upheld {
			upheld = "yes"
		}
		return strings.Join([]string{strconv.Itoa(p.Number), p.Stage, upheld}, ":")
	}), api.OK
}

func raceElements(o Office, _ []string) ([]string, api.Errno) {
	return each(o.Sheets, func(s Sheet) string { return s.Race }), api.OK
}

// Events returns the events.
func (s *Session) Events() []api.Event {
	if s == nil {
		return nil
	}
	return each(s.events, func(e api.Event) api.Event {
		e.Names, e.Values = slices.Clone(e.Names), slices.Clone(e.Values)
		return e
	})
}

// Log returns the log of the events.
func (s *Session) Log() string {
	if s == nil {
		return ""
	}
	return strings.Join(each(s.events, record), "")
}

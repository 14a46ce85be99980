package mark

import (
	"iter"
	"strconv"
	"strings"

	"stadion/api"
)

const (
	second      = 10000 // ten-thousandths
	metre       = 1000  // millimetres
	textDigits  = 9     // digits of an integer in the text of a mark
	timeFields  = 3     // hours, minutes and seconds
	exactDigits = 4     // digits behind the point of a time
)

// Print returns the text of a mark.
func Print(m api.Mark) (string, api.Errno) {
	all := kinds()
	if e := checkMark(all, m); e != api.OK {
		return "", e
	}
	return all[m.Kind].print(m), api.OK
}

func printReason(m api.Mark) string {
	return m.Reason
}

func printPoints(m api.Mark) string {
	return strconv.Itoa(m.Value) + "p"
}

func printLength(m api.Mark) string {
	return strconv.Itoa(m.Value/metre) + "." + fractionDigits(m.Value%metre, 3, 2) + "m"
}

func printTime(m api.Mark) string {
	seconds := m.Value / second
	minutes, hours := seconds/60, seconds/3600
	var whole string
	switch {
	case minutes == 0:
		whole = strconv.Itoa(seconds)
	case hours == 0:
		whole = strconv.Itoa(minutes) + ":" + padded(uint64(seconds%60), 2)
	default:
		whole = strconv.Itoa(hours) + ":" + padded(uint64(minutes%60), 2) + ":" + padded(uint64(seconds%60), 2)
	}
	return whole + "." + fractionDigits(m.Value%second, exactDigits, 2)
}

// fractionDigits returns all digits behind a point, or only the short ones if the others are 0.
func fractionDigits(value, all, short int) string {
	digits := padded(uint64(value), all)
	if strings.Trim(digits[short:], "0") == "" {
		return digits[:short]
	}
	return digits
}

// Parse returns the mark with a text.
func Parse(s string) (api.Mark, api.Errno) {
	if len(s) > api.MaxName {
		return api.Mark{}, api.ErrLong
	}
	all := kinds()
	m, e := all[kindOfText(s)].parse(s)
	if e = first(e, checkMark(all, m)); e != api.OK {
		return api.Mark{}, e
	}
	return m, api.OK
}

// kindOfText returns the only kind whose marks may have a text.
func kindOfText(s string) string {
	switch {
	case isReason(s):
		return kindNone
	case strings.HasSuffix(s, "m"):
		return kindLength
	case strings.HasSuffix(s, "p"):
		return kindPoints
	}
	return kindTime
}

func parseReason(text string) (api.Mark, api.Errno) {
	return api.Mark{Kind: kindNone, Reason: text}, api.OK
}

func parsePoints(text string) (api.Mark, api.Errno) {
	value, ok := parseInteger(strings.TrimSuffix(text, "p"))
	if !ok {
		return api.Mark{}, api.ErrSyntax
	}
	return api.Mark{Kind: kindPoints, Value: value}, api.OK
}

func parseLength(text string) (api.Mark, api.Errno) {
	whole, digits, _ := strings.Cut(strings.TrimSuffix(text, "m"), ".")
	metres, ok := parseInteger(whole)
	rest, restOK := parseDigits(digits, 2, 3)
	if !ok || !restOK {
		return api.Mark{}, api.ErrSyntax
	}
	return api.Mark{Kind: kindLength, Value: metres*metre + rest}, api.OK
}

func parseTime(text string) (api.Mark, api.Errno) {
	whole, digits, _ := strings.Cut(text, ".")
	rest, ok := parseDigits(digits, 1, exactDigits)
	fields, fieldsOK := parseFields(whole)
	if !ok || !fieldsOK {
		return api.Mark{}, api.ErrSyntax
	}
	seconds := 0
	for i, f := range fields {
		isHours := len(fields)-i == timeFields
		if f > 59 && !isHours {
			return api.Mark{}, api.ErrRange
		}
		seconds = 60*seconds + f
	}
	return api.Mark{Kind: kindTime, Value: seconds*second + rest}, api.OK
}

// parseFields returns the hours, minutes and seconds, as far as they are there.
func parseFields(text string) ([]int, bool) {
	var fields []int
	for field := range splitFields(text) {
		parse := parseInteger
		if len(fields) > 0 {
			parse = parseTwoDigits
		}
		value, ok := parse(field)
		if !ok {
			return nil, false
		}
		fields = append(fields, value)
	}
	return fields, len(fields) <= timeFields
}

// splitFields yields the parts of a text between its colons.
func splitFields(text string) iter.Seq[string] {
	return func(yield func(string) bool) {
		rest, more := text, true
		for more {
			var field string
			field, rest, more = strings.Cut(rest, ":")
			if !yield(field) {
				return
			}
		}
	}
}

// parseInteger reads an integer without zeros in front that is not too long.
func parseInteger(text string) (int, bool) {
	if !isInteger(text) || len(text) > textDigits {
		return 0, false
	}
	value, err := strconv.Atoi(text)
	return value, err == nil
}

func parseTwoDigits(text string) (int, bool) {
	return parseDigits(text, 2, 2)
}

// parseDigits reads from least to most digits, as if zeros stood behind them up to the most.
func parseDigits(digits string, least, most int) (int, bool) {
	if !isDigits(digits) || len(digits) < least || len(digits) > most {
		return 0, false
	}
	value, err := strconv.Atoi(digits + strings.Repeat("0", most-len(digits)))
	return value, err == nil
}

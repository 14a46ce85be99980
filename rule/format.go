package rule

import (
	"slices"
	"strconv"
	"strings"

	"stadion/api"
)

// The ranks of clauses, from those that bind their parts most loosely on.
const (
	rankIf = iota
	rankSeries
	rankSingle
)

// Format returns the normal form of a condition, or the byte of the first error.
func Format(s string) (string, int, api.Errno) {
	parsed, at, e := parse(s)
	if e != api.OK {
		return "", at, e
	}
	text := spaced(pieces(parsed.root, rankIf))
	if len(text) > api.MaxText {
		return "", 0, api.ErrLong
	}
	return text, 0, api.OK
}

func rank(x clause) int {
	switch x.(type) {
	case implication:
		return rankIf
	case series:
		return rankSeries
	}
	return rankSingle
}

// pieces returns the tokens of the normal form of a clause where at least a rank is needed.
func pieces(x clause, needed int) []string {
	if rank(x) < needed {
		return slices.Concat([]string{"("}, pieces(x, rankIf), []string{")"})
	}
	switch x := x.(type) {
	case constant:
		return []string{strconv.FormatBool(bool(x))}
	case negation:
		return slices.Concat([]string{"not"}, pieces(x.of, rankSingle))
	case series:
		return piecesOfSeries(x)
	case implication:
		return slices.Concat([]string{"if"}, pieces(x.premise, rankSeries), []string{"then"}, pieces(x.conclusion, rankIf))
	case *comparison:
		return piecesOfTokens(x.tokens)
	}
	return nil
}

func piecesOfSeries(x series) []string {
	key, needed := "or", rankSeries // a series in this one has the key and, as one of the same kind would have been joined
	if x.all {
		key, needed = "and", rankSingle
	}
	withKeys := joined(x.list, func(part clause) []string {
		return append([]string{key}, pieces(part, needed)...)
	})
	return withKeys[1:]
}

func piecesOfTokens(tokens []Token) []string {
	out := make([]string, len(tokens))
	for i, t := range tokens {
		out[i] = source(t)
	}
	return out
}

// spaced returns the text of tokens with a blank wherever one stands between them.
func spaced(tokens []string) string {
	var text strings.Builder
	for i, t := range tokens {
		if i > 0 && isSpaced(tokens[i-1], t) {
			text.WriteString(" ")
		}
		text.WriteString(t)
	}
	return text.String()
}

func isSpaced(before, after string) bool {
	return !slices.Contains([]string{"(", "{", ".."}, before) && !slices.Contains([]string{")", "}", ",", ".."}, after)
}

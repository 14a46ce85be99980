package rule

import (
	"strings"

	"stadion/api"
	"stadion/mark"
)

// The kinds of tokens.
const (
	kindKey     = "key"
	kindName    = "name"
	kindInteger = "integer"
	kindWord    = "word"
	kindSymbol  = "symbol"
)

const (
	quote         = "'"
	integerDigits = 9 // digits of an integer at most
)

// Tokens returns the parts of a text, or the byte of the first error.
func Tokens(s string) ([]Token, int, api.Errno) {
	if len(s) > api.MaxText {
		return nil, 0, api.ErrLong
	}
	r := &reader{text: s}
	var tokens []Token
	for r.skipBlanks(); r.at < len(s); r.skipBlanks() {
		t, ok := r.next()
		if !ok {
			return nil, r.at, api.ErrSyntax
		}
		tokens = append(tokens, t)
	}
	return tokens, 0, api.OK
}

// reader reads a text from a byte on.
type reader struct {
	text string
	at   int
}

func (r *reader) rest() string {
	return r.text[r.at:]
}

func (r *reader) skipBlanks() {
	r.at += len(leading(r.rest(), isBlank))
}

// next reads the token that begins here, or stays if there is none.
func (r *reader) next() (Token, bool) {
	for _, read := range []func() (Token, bool){r.name, r.integer, r.word, r.symbol} {
		if t, ok := read(); ok {
			r.at = end(t)
			return t, true
		}
	}
	return Token{}, false
}

func (r *reader) name() (Token, bool) {
	piece := leading(r.rest(), isOfName)
	if isKey(piece) {
		return Token{kindKey, piece, r.at}, true
	}
	return Token{kindName, piece, r.at}, mark.IsName(piece)
}

func (r *reader) integer() (Token, bool) {
	unsigned := strings.TrimPrefix(r.rest(), "-")
	digits := leading(unsigned, isDigit)
	piece := strings.TrimSuffix(r.rest(), unsigned[len(digits):])
	ok := len(digits) <= integerDigits && mark.Check(api.Rat(piece)) == api.OK
	return Token{kindInteger, piece, r.at}, ok
}

func (r *reader) word() (Token, bool) {
	inside, opened := strings.CutPrefix(r.rest(), quote)
	name := leading(inside, isOfName)
	closed := strings.HasPrefix(inside[len(name):], quote)
	return Token{kindWord, name, r.at}, opened && closed && mark.IsName(name)
}

func (r *reader) symbol() (Token, bool) {
	// the long ones stand in front of those with which they begin
	for _, symbol := range []string{"==", "!=", "<=", ">=", "..", "<", ">", "(", ")", "{", "}", ","} {
		if strings.HasPrefix(r.rest(), symbol) {
			return Token{kindSymbol, symbol, r.at}, true
		}
	}
	return Token{}, false
}

// end returns the byte after a token.
func end(t Token) int {
	return t.At + len(source(t))
}

// source returns a token as it stands in a text.
func source(t Token) string {
	if t.Kind == kindWord {
		return quote + t.Text + quote
	}
	return t.Text
}

// leading returns the longest piece at the beginning of a text whose characters are of a class.
func leading(text string, class func(c rune) bool) string {
	for i, c := range text {
		if !class(c) {
			return text[:i]
		}
	}
	return text
}

func isBlank(c rune) bool {
	return c == ' '
}

func isDigit(c rune) bool {
	return c >= '0' && c <= '9'
}

func isOfName(c rune) bool {
	return c >= 'A' && c <= 'Z' || c >= 'a' && c <= 'z' || isDigit(c) || c == '_'
}

func isKey(text string) bool {
	switch text {
	case "if", "then", "and", "or", "not", "in", "true", "false":
		return true
	}
	return false
}

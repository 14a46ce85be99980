package rule

import (
	"slices"
	"strings"
	"testing"

	"stadion/api"
)

func TestTokens(t *testing.T) {
	long := strings.Repeat("a", 24)
	for _, x := range []struct {
		text string
		want []Token
	}{
		{"", nil}, {"   ", nil},
		{"age in{-5..16,'x'}", []Token{{"name", "age", 0}, {"key", "in", 4}, {"symbol", "{", 6}, {"integer", "-5", 7}, {"symbol", "..", 9}, {"integer", "16", 11}, {"symbol", ",", 13}, {"word", "x", 14}, {"symbol", "}", 17}}},
		{"if then and or not in true false", []Token{{"key", "if", 0}, {"key", "then", 3}, {"key", "and", 8}, {"key", "or", 12}, {"key", "not", 15}, {"key", "in", 19}, {"key", "true", 22}, {"key", "false", 27}}},
		{"ifs If i_f in1 truely", []Token{{"name", "ifs", 0}, {"name", "If", 4}, {"name", "i_f", 7}, {"name", "in1", 11}, {"name", "truely", 15}}},
		{"'if''x' 'A_1'", []Token{{"word", "if", 0}, {"word", "x", 4}, {"word", "A_1", 8}}},
		{long + " '" + long + "'", []Token{{"name", long, 0}, {"word", long, 25}}},
		{"==!=<=>=..<>(){},", []Token{{"symbol", "==", 0}, {"symbol", "!=", 2}, {"symbol", "<=", 4}, {"symbol", ">=", 6}, {"symbol", "..", 8}, {"symbol", "<", 10}, {"symbol", ">", 11}, {"symbol", "(", 12}, {"symbol", ")", 13}, {"symbol", "{", 14}, {"symbol", "}", 15}, {"symbol", ",", 16}}},
		{"<>=", []Token{{"symbol", "<", 0}, {"symbol", ">=", 1}}},
		{"0 7 -7 999999999 -999999999", []Token{{"integer", "0", 0}, {"integer", "7", 2}, {"integer", "-7", 4}, {"integer", "999999999", 7}, {"integer", "-999999999", 17}}},
		{"3and 4-5a-6", []Token{{"integer", "3", 0}, {"key", "and", 1}, {"integer", "4", 5}, {"integer", "-5", 6}, {"name", "a", 8}, {"integer", "-6", 9}}},
		{"AZaz09_ 'Z9'", []Token{{"name", "AZaz09_", 0}, {"word", "Z9", 8}}},
		{"  a  ", []Token{{"name", "a", 2}}},
	} {
		l, at, e := Tokens(x.text)
		if !slices.Equal(l, x.want) || at != 0 || e != api.OK {
			t.Errorf("Tokens(%q): got %v, %d and %v, want %v", x.text, l, at, e, x.want)
		}
	}
}

// wrongPieces returns texts with the byte at which the piece begins that is no token.
func wrongPieces() map[string]int {
	long := strings.Repeat("a", 25)
	return map[string]int{
		"a = 3": 2, "a ! b": 2, "a . b": 2, "1...2": 3, "<== =": 2, "a === 1": 4, "<=>=!": 4, "1.2": 1,
		"a == 007": 5, "a == -07": 5, "00": 0, "01": 0, "-0": 0, "-00": 0, "1234567890": 0, "a -1234567890": 2,
		"a == - 3": 5, "a --3": 2, "-": 0, "-a": 0, "1-": 1, "+3": 0,
		"a == 'b": 5, "a 'b c'": 2, "''": 0, "'1a'": 0, "'_a'": 0, "'b' '": 4, "a'": 1, "'b.'": 0, "'\u00e9'": 0, "'" + long + "'": 0, "'-1'": 0, "'": 0,
		"_a": 0, "3_": 1, long: 0, "b " + long + "_": 2, "b " + strings.Repeat("a", 24) + "_": 2,
		"a # b": 2, "a\tb": 1, "a\n": 1, "a\u00a0b": 1, "\u00e9": 0, "a\u00e9": 1, "a\x80": 1, "a\x00": 1, "[a]": 0, "\"a\"": 0, "a;": 1, "a & b # c": 2,
	}
}

func TestTokensErrors(t *testing.T) {
	for text, want := range wrongPieces() {
		if l, at, e := Tokens(text); len(l) != 0 || at != want || e != api.ErrSyntax {
			t.Errorf("Tokens(%q): got %v, %d and %v, want the byte %d", text, l, at, e, want)
		}
	}
	for _, text := range []string{strings.Repeat(" ", 4097), strings.Repeat("#", 4097)} {
		if l, at, e := Tokens(text); len(l) != 0 || at != 0 || e != api.ErrLong {
			t.Errorf("4097 bytes: got %v, %d and %v", l, at, e)
		}
	}
	if l, at, e := Tokens(strings.Repeat(" ", 4095) + "a"); len(l) != 1 || at != 0 || e != api.OK {
		t.Errorf("4096 bytes: got %v, %d and %v", l, at, e)
	}
	if l, at, e := Tokens(strings.Repeat("(", 4095) + "#"); len(l) != 0 || at != 4095 || e != api.ErrSyntax {
		t.Errorf("the last byte of 4096: got %v, %d and %v", l, at, e)
	}
}

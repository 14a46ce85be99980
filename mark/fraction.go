package mark

import (
	"strings"

	"stadion/api"
)

// fraction is a rational number in lowest terms, with any number of digits.
type fraction struct {
	num integer
	den natural
}

// lowest returns the fraction of two numbers in lowest terms; the second one is not 0.
func lowest(num integer, den natural) fraction {
	common := divisor(num.size, den)
	if !common.isOne() {
		num.size, _ = num.size.divide(common)
		den, _ = den.divide(common)
	}
	return fraction{num, den}
}

func (a fraction) plus(b fraction) fraction {
	return lowest(a.num.timesNatural(b.den).plus(b.num.timesNatural(a.den)), a.den.times(b.den))
}

func (a fraction) minus(b fraction) fraction {
	return a.plus(fraction{b.num.negated(), b.den})
}

func (a fraction) times(b fraction) fraction {
	return lowest(a.num.times(b.num), a.den.times(b.den))
}

// over divides by a number that is not 0.
func (a fraction) over(b fraction) fraction {
	return a.times(fraction{signed(b.num.negative, b.den), b.num.size})
}

func (a fraction) compare(b fraction) int {
	return a.num.timesNatural(b.den).minus(b.num.timesNatural(a.den)).sign()
}

func (a fraction) isZero() bool {
	return a.num.sign() == 0
}

func (a fraction) floor() fraction {
	whole, rest := a.num.size.divide(a.den)
	if a.num.negative && len(rest) > 0 {
		whole = whole.plus(fromWord(1))
	}
	return fraction{signed(a.num.negative, whole), fromWord(1)}
}

// read returns the fraction of a number, or the error of the number.
func read(a api.Rat) (fraction, api.Errno) {
	num, den, hasSlash := strings.Cut(string(a), "/")
	num, negative := strings.CutPrefix(num, "-")
	if !hasSlash {
		den = "1"
	}
	if !isInteger(num) || !isInteger(den) || den == "0" || hasSlash && den == "1" || negative && num == "0" {
		return fraction{}, api.ErrForm
	}
	if len(num) > api.MaxDigits || len(den) > api.MaxDigits {
		return fraction{}, api.ErrLarge
	}
	f := fraction{signed(negative, fromDigits(num)), fromDigits(den)}
	if !divisor(f.num.size, f.den).isOne() {
		return fraction{}, api.ErrForm
	}
	return f, api.OK
}

// write returns the number of a fraction, or ErrLarge if it has too many digits.
func write(f fraction) (api.Rat, api.Errno) {
	text, den := f.num.size.digits(), f.den.digits()
	if len(text) > api.MaxDigits || len(den) > api.MaxDigits {
		return "", api.ErrLarge
	}
	if f.num.negative {
		text = "-" + text
	}
	if !f.den.isOne() {
		text += "/" + den
	}
	return api.Rat(text), api.OK
}

// isInteger reports whether a text is a decimal integer without a sign, and without zeros in front.
func isInteger(text string) bool {
	return isDigits(text) && (text == "0" || text[0] != '0')
}

func isDigits(text string) bool {
	for i := range len(text) {
		if text[i] < '0' || text[i] > '9' {
			return false
		}
	}
	return text != ""
}

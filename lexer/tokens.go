package lexer

import (
	"strings"

	"chapman/api"
)

const (
	maxNumber = 40 // bytes of a number
	minByte   = 32 // least byte of a text
	maxByte   = 126
	point     = "."
	quote     = '"'
	escape    = '\\'
)

func isWord(s string) bool {
	return 0 < len(s) && len(s) <= api.MaxName && isLetter(s[0]) && all(s, isLetterOrDigit)
}

func isNumber(s string) bool {
	if len(s) > maxNumber {
		return false
	}
	whole, places, hasPoint := strings.Cut(s, point)
	return areDigits(whole) && (!hasPoint || areDigits(places))
}

func isText(s string) bool {
	return len(s) <= api.MaxText && all(s, isTextByte)
}

func isSign(s string) bool {
	switch s {
	case "(", ")", ",", ";", ":", point, "=", "<", lessOrEqual, "+", "-", "*":
		return true
	}
	return false
}

// areDigits reports whether s is digits, at least one of them.
func areDigits(s string) bool {
	return len(s) > 0 && all(s, isDigit)
}

// all reports whether all bytes of s are of one class.
func all(s string, is func(b byte) bool) bool {
	for _, b := range []byte(s) {
		if !is(b) {
			return false
		}
	}
	return true
}

func isLetter(b byte) bool { return 'a' <= b && b <= 'z' }

func isDigit(b byte) bool { return '0' <= b && b <= '9' }

func isLetterOrDigit(b byte) bool { return isLetter(b) || isDigit(b) }

func isTextByte(b byte) bool { return minByte <= b && b <= maxByte }

// quoted returns s between quotation marks, with a backslash ahead of each quotation mark and each backslash in it.
func quoted(s string) string {
	l := []byte{quote}
	for _, b := range []byte(s) {
		if b == quote || b == escape {
			l = append(l, escape)
		}
		l = append(l, b)
	}
	return string(append(l, quote))
}

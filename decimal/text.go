package decimal

import (
	"strconv"
	"strings"

	"chapman/api"
)

// wholeDigits is how many digits the integer part of a valid number has at most.
const wholeDigits = 10

// Text returns the text of a number: B2.
func Text(n int) string {
	whole, places := size(n)/api.Unit, size(n)%api.Unit
	text := strconv.FormatUint(whole, 10)
	if places != 0 {
		// A further unit, whose digit is cut off, keeps the zeros behind the point.
		digits := strconv.FormatUint(api.Unit+places, 10)[1:]
		text += "." + strings.TrimRight(digits, "0")
	}
	if n < 0 {
		return "-" + text
	}
	return text
}

// Parse returns the valid number with the text s, which has at most scale decimal places: B2.
func Parse(s string, scale int) (int, api.Errno) {
	if !isScale(scale) {
		return 0, api.ErrArg
	}
	unsigned, negative := strings.CutPrefix(s, "-")
	whole, places, point := strings.Cut(unsigned, ".")
	if s == "-0" || !isWhole(whole) || point && !arePlaces(places, scale) {
		return 0, api.ErrForm
	}
	// The digits are counted before they are read, because more of them may be more than an int holds.
	if len(whole) > wholeDigits {
		return 0, api.ErrBig
	}
	n := read(whole)*api.Unit + read(places)*units[len(places)]
	if negative {
		n = -n
	}
	return checked(n)
}

func isWhole(s string) bool {
	return s == "0" || s != "" && s[0] != '0' && areDigits(s)
}

func arePlaces(s string, scale int) bool {
	return s != "" && len(s) <= scale && s[len(s)-1] != '0' && areDigits(s)
}

func areDigits(s string) bool {
	for i := range len(s) {
		if s[i] < '0' || s[i] > '9' {
			return false
		}
	}
	return true
}

// read returns the number with these digits, and 0 if there are none.
func read(digits string) int {
	n := 0
	for i := range len(digits) {
		n = n*10 + int(digits[i]-'0')
	}
	return n
}

package value

import (
	"strconv"
	"strings"

	"chapman/api"
	"chapman/decimal"
)

const (
	null   = "null"
	quote  = '"'
	escape = '\\'
)

// Text returns the text form of a wide value, and the empty string for other ones: F3.
func Text(v api.Value) string {
	if !Wide(v) {
		return ""
	}
	switch v.K {
	case api.VBool:
		return strconv.FormatBool(v == boolean(1))
	case api.VNum:
		return decimal.Text(v.I)
	case api.VText:
		return quoted(v.S)
	}
	return null
}

// Parse returns the valid value with the text form s: F3.
func Parse(s string) (api.Value, api.Errno) {
	v := guess(s)
	// What was guessed from a string that is no text form has another one.
	if !Valid(v) || Text(v) != s {
		return api.Value{}, api.ErrForm
	}
	return v, api.OK
}

// guess returns the value with the text form s, and any value if there is none.
func guess(s string) api.Value {
	switch {
	case s == null:
		return api.Value{}
	case s == strconv.FormatBool(false):
		return boolean(0)
	case s == strconv.FormatBool(true):
		return boolean(1)
	case strings.HasPrefix(s, string(quote)):
		return text(unquoted(s))
	}
	n, _ := decimal.Parse(s, api.MaxScale)
	return number(n)
}

// quoted returns s between quotation marks, with a backslash ahead of each quotation mark and each backslash in it.
func quoted(s string) string {
	b := []byte{quote}
	for _, c := range []byte(s) {
		if c == quote || c == escape {
			b = append(b, escape)
		}
		b = append(b, c)
	}
	return string(append(b, quote))
}

// unquoted returns the string of which quoted makes s, and any string if there is none.
func unquoted(s string) string {
	var b []byte
	escaped := false
	for _, c := range []byte(s) {
		if !escaped && (c == quote || c == escape) {
			escaped = c == escape
			continue
		}
		b = append(b, c)
		escaped = false
	}
	return string(b)
}

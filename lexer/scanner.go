package lexer

import "strings"

const (
	comment     = '#'
	lessOrEqual = "<="
)

// scanner reads a source from its beginning on, up to the offset at. What it reads as a token need not be a valid one, nor its spelling: who calls it compares both.
type scanner struct {
	source string
	at     int
}

// skipSpace skips white space.
func (c *scanner) skipSpace() {
	c.skip(isBlank)
	for c.at < len(c.source) && c.source[c.at] == comment {
		c.skip(isNoLineFeed)
		c.skip(isBlank)
	}
}

// token reads the next token; the source must not be at its end.
func (c *scanner) token() Token {
	scan := [...]func(c *scanner) string{
		Word:   (*scanner).word,
		Number: (*scanner).number,
		Text:   (*scanner).text,
		Sign:   (*scanner).sign,
	}
	at, kind := c.at, kindOf(c.source[c.at])
	return Token{Kind: kind, S: scan[kind](c), At: at}
}

// kindOf returns the kind of the tokens that begin with the byte b.
func kindOf(b byte) int {
	switch {
	case isLetter(b):
		return Word
	case isDigit(b):
		return Number
	case b == quote:
		return Text
	}
	return Sign
}

func (c *scanner) word() string {
	from := c.at
	c.skip(isLetterOrDigit)
	return c.source[from:c.at]
}

func (c *scanner) number() string {
	from := c.at
	c.skip(isDigit)
	if places, ok := strings.CutPrefix(c.source[c.at:], point); ok && places != "" && isDigit(places[0]) {
		c.at += len(point)
		c.skip(isDigit)
	}
	// Letters that follow directly are read too, because with them it is no number.
	c.skip(isLetter)
	return c.source[from:c.at]
}

// text reads up to the quotation mark that ends the text, or up to the end of the source if there is none; it returns what stands between the quotation marks, without the backslashes that are ahead of other bytes.
func (c *scanner) text() string {
	var content []byte
	c.at++
	for c.at < len(c.source) && c.source[c.at] != quote {
		if c.source[c.at] == escape && c.at+1 < len(c.source) {
			c.at++
		}
		content = append(content, c.source[c.at])
		c.at++
	}
	c.at = min(c.at+1, len(c.source))
	return string(content)
}

func (c *scanner) sign() string {
	size := 1
	if strings.HasPrefix(c.source[c.at:], lessOrEqual) {
		size = len(lessOrEqual)
	}
	c.at += size
	return c.source[c.at-size : c.at]
}

// skip goes on to the first byte that is not of a class.
func (c *scanner) skip(is func(b byte) bool) {
	for c.at < len(c.source) && is(c.source[c.at]) {
		c.at++
	}
}

func isBlank(b byte) bool { return b == ' ' || b == '\t' || b == '\n' }

func isNoLineFeed(b byte) bool { return b != '\n' }

package lexer_test

import (
	"regexp"
	"strings"

	"chapman/api"
	"chapman/lexer"
)

// The model matches sources and tokens with patterns; it uses no code of the package, so that no mistake is made twice.

const (
	mostName   = 16
	mostNumber = 40
	mostText   = 40
	mostCode   = 20000
)

var (
	spacePattern = regexp.MustCompile(`^(?:[ \t\n]|#[^\n]*)*`)
	readPatterns = map[int]*regexp.Regexp{
		1: regexp.MustCompile(`^([a-z][a-z0-9]*)`),
		2: regexp.MustCompile(`^([0-9]+(?:\.[0-9]+)?)`),
		3: regexp.MustCompile(`^"((?:[ !#-\[\]-~]|\\["\\])*)"`),
		4: regexp.MustCompile(`^(<=|[(),;:.=<+*-])`),
	}
	letterPattern = regexp.MustCompile(`^[a-z]`)
	validPatterns = map[int]*regexp.Regexp{
		1: regexp.MustCompile(`^[a-z][a-z0-9]{0,15}$`),
		2: regexp.MustCompile(`^[0-9]+(?:\.[0-9]+)?$`),
		3: regexp.MustCompile(`^[ -~]{0,40}$`),
		4: regexp.MustCompile(`^(?:<=|[(),;:.=<+*-])$`),
	}
	unescaper = strings.NewReplacer(`\"`, `"`, `\\`, `\`)
	escaper   = strings.NewReplacer(`"`, `\"`, `\`, `\\`)
)

func modelLex(s string) ([]lexer.Token, int, api.Errno) {
	if len(s) > mostCode {
		return nil, 0, 2
	}
	var l []lexer.Token
	for at := 0; ; {
		at += len(spacePattern.FindString(s[at:]))
		if at == len(s) {
			return l, 0, 0
		}
		t, size := modelNext(s[at:])
		if size == 0 {
			return nil, at, 5
		}
		t.At = at
		l, at = append(l, t), at+size
	}
}

// modelNext returns the token that s begins with, and the size of its spelling, which is 0 if there is none.
func modelNext(s string) (lexer.Token, int) {
	for kind, p := range readPatterns {
		m := p.FindStringSubmatch(s)
		if m == nil {
			continue
		}
		t := lexer.Token{Kind: kind, S: m[1]}
		if kind == 3 {
			t.S = unescaper.Replace(m[1])
		}
		if modelValid(t) && !(kind == 2 && letterPattern.MatchString(s[len(m[0]):])) {
			return t, len(m[0])
		}
	}
	return lexer.Token{}, 0
}

func modelValid(t lexer.Token) bool {
	p := validPatterns[t.Kind]
	return p != nil && p.MatchString(t.S) && (t.Kind != 2 || len(t.S) <= mostNumber)
}

func modelSpell(t lexer.Token) string {
	if !modelValid(t) {
		return ""
	}
	if t.Kind == 3 {
		return `"` + escaper.Replace(t.S) + `"`
	}
	return t.S
}

func modelJoin(l []lexer.Token) string {
	s := ""
	for _, t := range l {
		if spelling := modelSpell(t); spelling != "" {
			s += " " + spelling
		}
	}
	return strings.TrimPrefix(s, " ")
}

// modelLine goes on byte by byte.
func modelLine(s string, at int) (int, int) {
	line, column := 1, 1
	for i := 0; i < at && i < len(s); i++ {
		column++
		if s[i] == '\n' {
			line, column = line+1, 1
		}
	}
	return line, column
}

package lexer_test

import (
	"math/rand/v2"
	"strings"

	"chapman/lexer"
)

// The sources and the tokens that the tests try.

func newRand() *rand.Rand { return rand.New(rand.NewPCG(10, 10)) }

func word(s string) lexer.Token { return lexer.Token{Kind: 1, S: s} }

func number(s string) lexer.Token { return lexer.Token{Kind: 2, S: s} }

func text(s string) lexer.Token { return lexer.Token{Kind: 3, S: s} }

func sign(s string) lexer.Token { return lexer.Token{Kind: 4, S: s} }

func list[T any](l ...T) []T { return l }

// allSigns returns the signs of the document.
func allSigns() []string { return strings.Fields("( ) , ; : . = < <= + - *") }

// allBytes returns the strings of one byte.
func allBytes() []string {
	var l []string
	for b := range 256 {
		l = append(l, string([]byte{byte(b)}))
	}
	return l
}

// eachSource yields all sources of at most so many of the pieces.
func eachSource(pieces []string, most int, yield func(s string)) {
	var longer func(s string, n int)
	longer = func(s string, n int) {
		yield(s)
		if n == most {
			return
		}
		for _, p := range pieces {
			longer(s+p, n+1)
		}
	}
	longer("", 0)
}

// eachShortSource yields sources in which a few bytes stand in every order.
func eachShortSource(yield func(s string)) {
	eachSource(strings.Split("a1.\"\\#\n <=$", ""), 5, yield)
	eachSource(strings.Split("1.a ", ""), 7, yield)
	eachSource(strings.Split("\"\\#\na", ""), 7, yield)
	eachSource(strings.Split("<=>-", ""), 6, yield)
	eachSource([]string{"ab", "0", "\t", "\r", "\n", "#b", "é", "\x80", "\"\"", "A"}, 4, yield)
	eachSource(allBytes(), 2, yield)
}

// eachLongSource yields sources with tokens, and with what is nearly a token, at the limits of their sizes.
func eachLongSource(yield func(s string)) {
	x := strings.Repeat
	for n := range 100 {
		for _, s := range []string{
			x("a", n), x("9", n), "a" + x("9", n), "7" + x("a", n), `"` + x("a", n) + `"`, `"` + x("a", n), `"` + x(`\\`, n) + `"`, `"` + x(`\"`, n) + `"`, `"` + x(`\`, n) + `"`, `"` + x("é", n) + `"`,
			x("9", n) + ".", x("9", n) + ".5", "5." + x("9", n), x("1", n/2) + "." + x("2", n-n/2), x("9", n) + ".a", x("9", n) + ".5a", x("ab ", n), x(" ", n), x("\n", n), "#" + x("#", n), x("<", n), x("<=", n),
		} {
			yield(s)
			yield("b " + s + " c")
			yield("(" + s + ")")
		}
	}
	for _, b := range allBytes() {
		for _, s := range []string{"a" + b + "c", "1" + b + "2", "1." + b + "2", "1.2" + b + "3", `"a` + b + `c"`, `"\` + b + `"`, `"\\` + b + `"`, "#" + b + "a\nb", "<" + b + "=", `"a"` + b + `"b"`, "\n" + b + "\n"} {
			yield(s)
		}
	}
}

func pick[T any](r *rand.Rand, l ...T) T { return l[r.IntN(len(l))] }

// someString returns n bytes of some characters.
func someString(r *rand.Rand, characters string, n int) string {
	b := make([]byte, n)
	for i := range b {
		b[i] = characters[r.IntN(len(characters))]
	}
	return string(b)
}

const (
	letters = "abcdefghijklmnopqrstuvwxyz"
	digits  = "0123456789"
)

// printable returns the bytes from 32 to 126.
func printable() string {
	b := []byte{}
	for c := byte(32); c <= 126; c++ {
		b = append(b, c)
	}
	return string(b)
}

// someToken returns a valid token.
func someToken(r *rand.Rand) lexer.Token {
	t := lexer.Token{At: r.IntN(9) - 4}
	switch t.Kind = 1 + r.IntN(4); t.Kind {
	case 1:
		t.S = someString(r, letters, 1) + someString(r, letters+digits, r.IntN(mostName)/(1+r.IntN(4)))
	case 2:
		t.S = someString(r, digits, 1+r.IntN(mostNumber)/(1+r.IntN(9)))
		if room := mostNumber - len(t.S); room > 1 && r.IntN(2) == 0 {
			t.S += "." + someString(r, digits, 1+r.IntN(room-1)/(1+r.IntN(9)))
		}
	case 3:
		t.S = someString(r, pick(r, printable(), `"\`, "a# ", letters), r.IntN(mostText+1)/(1+r.IntN(9)))
	case 4:
		t.S = pick(r, allSigns()...)
	}
	return t
}

func someTokens(r *rand.Rand, n int) []lexer.Token {
	l := make([]lexer.Token, n)
	for i := range l {
		l[i] = someToken(r)
	}
	return l
}

// someSpace returns white space behind which anything may follow; it may be empty.
func someSpace(r *rand.Rand) string {
	s := ""
	for range r.IntN(4) {
		s += pick(r, " ", "\t", "\n", "  ", "#\n", "# a \"b\n", "##\n", "#\\\n", "#"+someString(r, printable()+"\t\r\x00\x80\xff", r.IntN(9))+"\n")
	}
	return s
}

// someEnd returns white space behind which nothing may follow.
func someEnd(r *rand.Rand) string {
	return someSpace(r) + pick(r, "", "#", "# a", "#\"")
}

// someSource returns a source, which is well-formed more often than not.
func someSource(r *rand.Rand, n int) string {
	s := someSpace(r)
	for range r.IntN(n + 1) {
		switch r.IntN(40) {
		case 0:
			s += pick(r, allBytes()...)
		case 1:
			s += pick(r, `"`, `\`, `"\`, `"\n"`, "é", "2x", "1.2x", ">", "A", "a_b", "\r", strings.Repeat("a", mostName+1))
		default:
			s += modelSpell(someToken(r))
		}
		s += pick(r, " ", "", someSpace(r))
	}
	return s + someEnd(r)
}

// eachSomeSource yields sources of all kinds.
func eachSomeSource(r *rand.Rand, n int, yield func(s string)) {
	for range n {
		s := someSource(r, 12)
		yield(s)
		if s == "" {
			continue
		}
		at := r.IntN(len(s))
		yield(s[:at])
		yield(s[at:])
		yield(s[:at] + s[at+1:])
		yield(s[:at] + pick(r, allBytes()...) + s[at:])
		yield(s[:at] + pick(r, `"`, `\`, "#", "\n", ".", "a", "1", "<", "=") + s[at:])
	}
}

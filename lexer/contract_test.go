package lexer_test

import (
	"math"
	"slices"
	"strings"
	"testing"

	"chapman/api"
	"chapman/lexer"
)

// These tests are for P10.1 (contract), for J5 and for P1 of the document.

// short returns the beginning of a source, for a message.
func short(s string) string { return s[:min(len(s), 80)] }

func checkLex(t *testing.T, s string) {
	t.Helper()
	l, at, e := lexer.Lex(s)
	if want, wantAt, wantE := modelLex(s); !slices.Equal(l, want) || at != wantAt || e != wantE {
		t.Errorf("Lex of %d bytes %q: %v, %d, %d instead of %v, %d, %d", len(s), short(s), l, at, e, want, wantAt, wantE)
	}
}

func checkToken(t *testing.T, x lexer.Token) {
	t.Helper()
	if got, want := lexer.Valid(x), modelValid(x); got != want {
		t.Errorf("Valid of %d and %q: %t", x.Kind, short(x.S), got)
	}
	if got, want := lexer.Spell(x), modelSpell(x); got != want {
		t.Errorf("Spell of %d and %q: %q instead of %q", x.Kind, short(x.S), got, want)
	}
}

func checkJoin(t *testing.T, l []lexer.Token) {
	t.Helper()
	was := slices.Clone(l)
	if got, want := lexer.Join(l), modelJoin(l); got != want {
		t.Errorf("Join of %d tokens %v: %q instead of %q", len(l), l[:min(len(l), 20)], short(got), short(want))
	}
	if !slices.Equal(l, was) {
		t.Errorf("Join made %v of %v", l, was)
	}
}

func checkLine(t *testing.T, s string, at int) {
	t.Helper()
	line, column := lexer.Line(s, at)
	if wantLine, wantColumn := modelLine(s, at); line != wantLine || column != wantColumn {
		t.Errorf("Line of %d in %q: %d, %d instead of %d, %d", at, short(s), line, column, wantLine, wantColumn)
	}
}

func TestExamples(t *testing.T) {
	l, at, e := lexer.Lex(`set t(1) = "a\"b";`)
	want := []lexer.Token{{1, "set", 0}, {1, "t", 4}, {4, "(", 5}, {2, "1", 6}, {4, ")", 7}, {4, "=", 9}, {3, `a"b`, 11}, {4, ";", 17}}
	if !slices.Equal(l, want) || at != 0 || e != api.OK {
		t.Errorf("Lex: %v, %d, %d", l, at, e)
	}
	for _, s := range []string{"a $", `1 "x`} {
		if l, at, e := lexer.Lex(s); l != nil || at != 2 || e != api.ErrForm {
			t.Errorf("Lex of %q: %v, %d, %d", s, l, at, e)
		}
	}
}

// J1: which tokens well-formed sources have, without their offsets.
func TestTokensOfSources(t *testing.T) {
	full := strings.Repeat("9", mostNumber)
	for _, c := range []struct {
		s string
		l []lexer.Token
	}{
		{"", nil}, {" ", nil}, {" \t\n\n\t ", nil}, {"#", nil}, {"#a", nil}, {"#a\n", nil}, {"##\n#\n \n#\"", nil}, {"#\x00\xff\r$\n", nil},
		// Words.
		{"a", list(word("a"))}, {"z9", list(word("z9"))}, {"az09az", list(word("az09az"))}, {"a b", list(word("a"), word("b"))}, {"a\nb\tc", list(word("a"), word("b"), word("c"))}, {"a#b\nc", list(word("a"), word("c"))}, {"a#b", list(word("a"))}, {strings.Repeat("a", mostName), list(word(strings.Repeat("a", mostName)))}, {"a.b", list(word("a"), sign("."), word("b"))}, {"a.1", list(word("a"), sign("."), number("1"))}, {"a1.5", list(word("a1"), sign("."), number("5"))}, {`a"b"c`, list(word("a"), text("b"), word("c"))},
		// Numbers.
		{"0", list(number("0"))}, {"007", list(number("007"))}, {"1.5", list(number("1.5"))}, {"0.00", list(number("0.00"))}, {"1.", list(number("1"), sign("."))}, {"1..2", list(number("1"), sign("."), sign("."), number("2"))}, {".5", list(sign("."), number("5"))}, {"1.2.3", list(number("1.2"), sign("."), number("3"))}, {"1.2.3.4", list(number("1.2"), sign("."), number("3.4"))}, {"1 .2", list(number("1"), sign("."), number("2"))}, {"1. 2", list(number("1"), sign("."), number("2"))}, {"1.a", list(number("1"), sign("."), word("a"))}, {"1.2.a", list(number("1.2"), sign("."), word("a"))}, {"1 a", list(number("1"), word("a"))}, {"1#a", list(number("1"))}, {"1\"a\"", list(number("1"), text("a"))}, {"-1", list(sign("-"), number("1"))}, {"+-1.5", list(sign("+"), sign("-"), number("1.5"))},
		{full, list(number(full))}, {full[:38] + ".9", list(number(full[:38] + ".9"))}, {"9." + full[:38], list(number("9." + full[:38]))}, {full + ".", list(number(full), sign("."))}, {full + ".a", list(number(full), sign("."), word("a"))}, {full + " " + full, list(number(full), number(full))},
		// Texts.
		{`""`, list(text(""))}, {`"" ""`, list(text(""), text(""))}, {`""""`, list(text(""), text(""))}, {`"a"`, list(text("a"))}, {`" a "`, list(text(" a "))}, {`"\""`, list(text(`"`))}, {`"\\"`, list(text(`\`))}, {`"\\\""`, list(text(`\"`))}, {`"\"\\"`, list(text(`"\`))}, {`"\\\\"`, list(text(`\\`))}, {`"\\"a`, list(text(`\`), word("a"))}, {`"#"`, list(text("#"))}, {`"a" # "`, list(text("a"))}, {`"~ }"`, list(text("~ }"))}, {`"ABC"`, list(text("ABC"))}, {`"` + strings.Repeat("x", mostText) + `"`, list(text(strings.Repeat("x", mostText)))}, {`"` + strings.Repeat(`\\`, mostText) + `"`, list(text(strings.Repeat(`\`, mostText)))}, {`"` + strings.Repeat(`\"`, mostText) + `"`, list(text(strings.Repeat(`"`, mostText)))}, {`"1"a`, list(text("1"), word("a"))}, {`"1"2`, list(text("1"), number("2"))},
		// Signs.
		{"()", list(sign("("), sign(")"))}, {",;:.", list(sign(","), sign(";"), sign(":"), sign("."))}, {"=<+-*", list(sign("="), sign("<"), sign("+"), sign("-"), sign("*"))}, {"<=", list(sign("<="))}, {"< =", list(sign("<"), sign("="))}, {"<#\n=", list(sign("<"), sign("="))}, {"=<", list(sign("="), sign("<"))}, {"<<=", list(sign("<"), sign("<="))}, {"<==", list(sign("<="), sign("="))}, {"<=<=", list(sign("<="), sign("<="))}, {"a<=b", list(word("a"), sign("<="), word("b"))}, {"<", list(sign("<"))}, {"1<2", list(number("1"), sign("<"), number("2"))},
	} {
		l, at, e := lexer.Lex(c.s)
		for i := range l {
			l[i].At = 0
		}
		if !slices.Equal(l, c.l) || at != 0 || e != api.OK {
			t.Errorf("Lex of %q: %v, %d, %d", c.s, l, at, e)
		}
		checkLex(t, c.s)
	}
}

// J1: where sources that are not well-formed go wrong.
func TestErrorOffsets(t *testing.T) {
	full := strings.Repeat("9", mostNumber)
	for _, c := range []struct {
		s  string
		at int
	}{
		// Bytes that no token begins with.
		{"$", 0}, {"A", 0}, {"_", 0}, {"\x00", 0}, {"\r", 0}, {"\v", 0}, {"\f", 0}, {"\x80", 0}, {"\xff", 0}, {"é", 0}, {"\u00a0", 0}, {"\u2028", 0}, {">", 0}, {"<>", 1}, {"a>=b", 1}, {"!=", 0}, {"a/b", 1}, {"[", 0}, {"{", 0}, {"'", 0}, {"`", 0}, {"\\", 0}, {`\"`, 0}, {"  $", 2}, {"#$\n$", 3}, {"#$\r$\n$", 5}, {"a\r\nb", 1}, {"a é", 2}, {"1é", 1}, {"1A", 1}, {"1_", 1}, {"1.A", 2}, {"aB", 1}, {"a_b", 1}, {"a $ $", 2}, {"a $ \"", 2},
		// Words that are too long.
		{strings.Repeat("a", mostName+1), 0}, {"b " + strings.Repeat("a9", mostName) + " $", 2}, {"(" + strings.Repeat("a", 100), 1},
		// Numbers that a letter follows, or that are too long.
		{"1a", 0}, {" 12ab", 1}, {"1.5a", 0}, {"1.5e3", 0}, {"0x1", 0}, {"1.2.3a", 4}, {"a.1b", 2}, {"1 2a 3", 2}, {"$1a", 0}, {full + "9", 0}, {full + "a", 0}, {full + ".9", 0}, {full[:39] + ".9", 0}, {"9." + full[:39], 0}, {" " + full + full, 1}, {"." + full + "9", 1}, {"1.2." + full + "9", 4},
		// Texts without an end, with another byte behind a backslash, with another byte, or too long.
		{`"`, 0}, {`"a`, 0}, {`a "`, 2}, {`"\"`, 0}, {`"\`, 0}, {`"\\`, 0}, {`"\\\"`, 0}, {`"a" "b`, 4}, {`"a"b"`, 4}, {`"""`, 2}, {`"\a"`, 0}, {`"\n"`, 0}, {`"\ "`, 0}, {`"ab\cd" $`, 0}, {`"a\` + "\n" + `"`, 0}, {`"\#"`, 0}, {`"\` + "\x80" + `"`, 0}, {"\"\n\"", 0}, {"\"a\tb\"", 0}, {"\"\x1f\"", 0}, {"\"\x7f\"", 0}, {"\"\x80\"", 0}, {"\"é\"", 0}, {"\"\x00\"", 0}, {"1 \"\xff\" $", 2}, {`"` + strings.Repeat("x", mostText+1) + `"`, 0}, {`("` + strings.Repeat(`\\`, mostText+1) + `")`, 1}, {`"` + strings.Repeat("x", mostText), 0}, {"\"a # b\nc", 0}, {"\"#\n\"", 0},
	} {
		if l, at, e := lexer.Lex(c.s); l != nil || at != c.at || e != api.ErrForm {
			t.Errorf("Lex of %q: %v, %d, %d instead of %d", c.s, l, at, e, c.at)
		}
		checkLex(t, c.s)
	}
}

func TestLex(t *testing.T) {
	check := func(s string) { checkLex(t, s) }
	eachShortSource(check)
	eachLongSource(check)
	eachSomeSource(newRand(), 10000, check)
}

// J1: sources with as many bytes as there may be, and with more of them.
func TestLongSources(t *testing.T) {
	x := strings.Repeat
	for _, piece := range []string{" ", "\n", "#", "# a\n", "a ", "1 ", "1.", `""`, `"`, `"a\"`, "(", "<=", "<", "<==", "a", "9", "ab,c;\n", `\`, "$", "\x80", `"\\"`, `"\`} {
		s := x(piece, mostCode/len(piece)+9)
		for n := mostCode - 3; n <= mostCode+3; n++ {
			checkLex(t, s[:n])
			checkLex(t, x(" ", n-7)+s[:7])
			checkLex(t, "$"+s[1:n])
			checkLex(t, s[:n-1]+"$")
		}
	}
	for _, s := range []string{x(" ", mostCode+1), x("$", mostCode+1), x("a ", mostCode), x("#", 1<<20), x("9", 1<<20), x(`"`, 1<<20+1), "$" + x("$", 1<<20)} {
		if l, at, e := lexer.Lex(s); l != nil || at != 0 || e != api.ErrBig {
			t.Errorf("Lex of %d bytes %q: %v, %d, %d", len(s), short(s), l, at, e)
		}
	}
}

// J2: tokens of all kinds with contents of all kinds, whatever At is.
func TestTokens(t *testing.T) {
	full := strings.Repeat("9", mostNumber)
	for _, x := range []lexer.Token{
		word("a"), word("z0"), word(strings.Repeat("q", mostName)), number("0"), number("00"), number("1.0"), number(full), number("1." + full[:38]), text(""), text(" "), text("~"), text(`"`), text(`\`), text("#"), text(strings.Repeat(`"`, mostText)), sign("<="), sign("<"), sign("*"),
	} {
		for _, at := range []int{0, 1, -1, math.MinInt, math.MaxInt} {
			x.At = at
			if !lexer.Valid(x) || lexer.Spell(x) == "" {
				t.Errorf("Valid(%v): %t, and Spell: %q", x, lexer.Valid(x), lexer.Spell(x))
			}
			checkToken(t, x)
		}
	}
	for _, x := range []lexer.Token{
		{}, {0, "a", 0}, {5, "a", 0}, {-1, "a", 0}, {math.MinInt, "1", 0}, {math.MaxInt, "(", 0}, {6, "", 0}, {257, "a", 0},
		word(""), word("0a"), word("A"), word("aB"), word("a b"), word("a_"), word("é"), word("a\x00"), word("a\n"), word(" a"), word(strings.Repeat("q", mostName+1)), word("1"), word("("), word(`"a"`),
		number(""), number("."), number("1."), number(".1"), number("1..2"), number("1.2.3"), number("-1"), number("+1"), number("1a"), number("a"), number("1 "), number("1e3"), number("1,5"), number("٣"), number(full + "9"), number("1." + full[:39]), number("1.2\n"),
		text("\n"), text("a\tb"), text("\x1f"), text("\x7f"), text("\x80"), text("é"), text(strings.Repeat("x", mostText+1)),
		sign(""), sign(">"), sign(">="), sign("<<"), sign("=="), sign("=<"), sign("<=="), sign("()"), sign("( "), sign(" "), sign("$"), sign(`"`), sign("#"), sign("a"), sign("1"), sign("\n"), sign("/"), sign("<=\n"),
	} {
		if lexer.Valid(x) || lexer.Spell(x) != "" {
			t.Errorf("Valid(%v): %t, and Spell: %q", x, lexer.Valid(x), lexer.Spell(x))
		}
		checkToken(t, x)
	}
	for _, s := range allSigns() {
		if x := sign(s); !lexer.Valid(x) || lexer.Spell(x) != s {
			t.Errorf("Valid(%v): %t, and Spell: %q", x, lexer.Valid(x), lexer.Spell(x))
		}
	}
	check := func(s string) {
		for kind := -1; kind <= 6; kind++ {
			checkToken(t, lexer.Token{Kind: kind, S: s, At: len(s) - 3})
		}
	}
	eachSource(strings.Split("a1.\"\\<=( ", ""), 4, check)
	eachSource(allBytes(), 2, check)
	eachLongSource(check)
	eachSomeSource(newRand(), 1000, check)
}

func TestJoin(t *testing.T) {
	bad := lexer.Token{Kind: 9, S: "a"}
	for _, c := range []struct {
		l []lexer.Token
		s string
	}{
		{nil, ""}, {list(word("a")), "a"}, {list(word("a"), word("b")), "a b"}, {list(bad), ""}, {list(bad, bad, word("A")), ""}, {list(bad, word("a")), "a"}, {list(word("a"), bad), "a"}, {list(word("a"), bad, number("1.5")), "a 1.5"}, {list(bad, word("a"), bad, bad, word("b"), bad), "a b"}, {list(text(""), text("")), `"" ""`}, {list(text(`a"\`), sign("<=")), `"a\"\\" <=`}, {list(sign("<"), sign("=")), "< ="}, {list(number("1"), sign("."), number("2")), "1 . 2"},
	} {
		if s := lexer.Join(c.l); s != c.s {
			t.Errorf("Join of %v: %q instead of %q", c.l, s, c.s)
		}
		checkJoin(t, c.l)
	}
	r := newRand()
	for range 20000 {
		l := someTokens(r, r.IntN(12))
		checkJoin(t, l)
		for i := range l {
			if r.IntN(3) == 0 {
				l[i].Kind = r.IntN(7) - 1
			}
		}
		checkJoin(t, l)
	}
	// There is no limit to what is joined.
	checkJoin(t, someTokens(r, 5000))
}

func TestLine(t *testing.T) {
	for _, c := range []struct {
		s                string
		at, line, column int
	}{
		{"", 0, 1, 1}, {"", 1, 1, 1}, {"", -1, 1, 1}, {"", math.MaxInt, 1, 1}, {"", math.MinInt, 1, 1},
		{"abc", 0, 1, 1}, {"abc", 2, 1, 3}, {"abc", 3, 1, 4}, {"abc", 4, 1, 4}, {"abc", math.MaxInt, 1, 4}, {"abc", -1, 1, 1}, {"abc", math.MinInt, 1, 1},
		{"\n", 0, 1, 1}, {"\n", 1, 2, 1}, {"\n", 2, 2, 1}, {"\n\n", 1, 2, 1}, {"\n\n", 2, 3, 1}, {"a\nb", 1, 1, 2}, {"a\nb", 2, 2, 1}, {"a\nb", 3, 2, 2}, {"a\nb", 9, 2, 2}, {"a\n", 9, 2, 1}, {"\na", -9, 1, 1},
		// Bytes are counted, whatever they are, and line feeds alone end lines.
		{"é\n", 2, 1, 3}, {"\t\r\nx", 3, 2, 1}, {"a\r\v\f\x85b", 6, 1, 7}, {"\u2028a", 3, 1, 4}, {"\x80\xff", 2, 1, 3},
	} {
		if line, column := lexer.Line(c.s, c.at); line != c.line || column != c.column {
			t.Errorf("Line of %d in %q: %d, %d", c.at, c.s, line, column)
		}
		checkLine(t, c.s, c.at)
	}
	check := func(s string) {
		for at := -2; at <= len(s)+2; at++ {
			checkLine(t, s, at)
		}
		checkLine(t, s, math.MinInt)
		checkLine(t, s, math.MaxInt)
	}
	eachSource([]string{"a", "\n", "\r", "é"}, 6, check)
	eachSomeSource(newRand(), 300, check)
	// Sources of any length.
	long := strings.Repeat("ab\n", 1<<16)
	for _, at := range []int{0, 1, 2, 3, 20000, 20001, 20002, len(long) - 1, len(long), len(long) + 1} {
		checkLine(t, long, at)
	}
}

// P1: no state is kept, and changing a result changes no other one.
func TestCallsAgain(t *testing.T) {
	eachSomeSource(newRand(), 300, func(s string) {
		l, _, _ := lexer.Lex(s)
		clear(l)
		l = append(l, word("x"))
		clear(l)
		checkLex(t, s)
	})
}

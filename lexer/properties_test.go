package lexer_test

import (
	"regexp"
	"slices"
	"strings"
	"testing"

	"chapman/api"
	"chapman/lexer"
)

// wellFormed yields the well-formed ones of the sources that the tests try, with their tokens.
func wellFormed(t *testing.T, yield func(s string, l []lexer.Token)) {
	t.Helper()
	n := 0
	check := func(s string) {
		if l, _, e := lexer.Lex(s); e == api.OK {
			n++
			yield(s, l)
		}
	}
	eachShortSource(check)
	eachLongSource(check)
	eachSomeSource(newRand(), 5000, check)
	if n < 50000 {
		t.Errorf("only %d sources were well-formed", n)
	}
}

// moved returns the tokens of l with their offsets moved by n.
func moved(l []lexer.Token, n int) []lexer.Token {
	m := slices.Clone(l)
	for i := range m {
		m[i].At += n
	}
	return m
}

// sameTokens reports whether two lists have the same tokens, but for their offsets.
func sameTokens(l, m []lexer.Token) bool {
	return slices.EqualFunc(l, m, func(a, b lexer.Token) bool { return a.Kind == b.Kind && a.S == b.S })
}

// checkTokens checks that s has the tokens of l, but for their offsets.
func checkTokens(t *testing.T, s string, l []lexer.Token) {
	t.Helper()
	if got, at, e := lexer.Lex(s); !sameTokens(got, l) || at != 0 || e != api.OK {
		t.Errorf("Lex of %d bytes %q: %v, %d, %d instead of %v", len(s), short(s), got[:min(len(got), 20)], at, e, l[:min(len(l), 20)])
	}
}

// P10.2: valid tokens that stand in the source at their offsets, with white space alone around them.
func TestCover(t *testing.T) {
	between := regexp.MustCompile(`^([ \t\n]|#[^\n]*\n)*$`)
	last := regexp.MustCompile(`^([ \t\n]|#[^\n]*\n)*(#[^\n]*)?$`)
	wellFormed(t, func(s string, l []lexer.Token) {
		end := 0
		for i, x := range l {
			spelling := lexer.Spell(x)
			if !lexer.Valid(x) || spelling == "" || x.At < end || !strings.HasPrefix(s[x.At:], spelling) {
				t.Fatalf("token %d of %q: %v", i, s, x)
			}
			if !between.MatchString(s[end:x.At]) {
				t.Fatalf("%q is ahead of token %d of %q: %v", s[end:x.At], i, s, x)
			}
			end = x.At + len(spelling)
		}
		if !last.MatchString(s[end:]) {
			t.Fatalf("%q is behind the last token of %q", s[end:], s)
		}
	})
}

// P10.3: joined tokens are read again.
func TestJoinedTokens(t *testing.T) {
	edge := list(word("a"), word("z9"), word(strings.Repeat("a", mostName)), number("1"), number("0.5"), number(strings.Repeat("9", mostNumber)), text(""), text(`"`), text(`\`), text("#"), text(" "), text(strings.Repeat(`\`, mostText)))
	for _, s := range allSigns() {
		edge = append(edge, sign(s))
	}
	for _, a := range edge {
		for _, b := range edge {
			checkTokens(t, lexer.Join(list(a, b)), list(a, b))
			for _, c := range edge {
				checkTokens(t, lexer.Join(list(a, b, c)), list(a, b, c))
			}
		}
	}
	r := newRand()
	for range 20000 {
		l := someTokens(r, r.IntN(30))
		checkTokens(t, lexer.Join(l), l)
	}
}

// P10.3: up to 20000 bytes, and no further.
func TestManyJoinedTokens(t *testing.T) {
	r := newRand()
	for range 200 {
		l := list(pick(r, word("a"), word("ab")))
		size := len(lexer.Join(l))
		for size < mostCode-100 {
			x := someToken(r)
			l, size = append(l, x), size+1+len(lexer.Spell(x))
		}
		for size < mostCode-1 {
			l, size = append(l, sign("(")), size+2
		}
		s := lexer.Join(l)
		if len(s) != size || size > mostCode {
			t.Fatalf("%d bytes instead of %d", len(s), size)
		}
		checkTokens(t, s, l)
		if got, at, e := lexer.Lex(lexer.Join(append(l, sign(")")))); got != nil || at != 0 || e != api.ErrBig {
			t.Fatalf("Lex of %d bytes: %d tokens, %d, %d", size+2, len(got), at, e)
		}
	}
}

// P10.4: white space between tokens, and around them, changes their offsets alone.
func TestMoreWhiteSpace(t *testing.T) {
	r := newRand()
	wellFormed(t, func(s string, l []lexer.Token) {
		// Each token has white space put directly ahead of it, or directly behind it.
		spaced, end := "", 0
		var at []int
		for _, x := range l {
			ahead, behind := someSpace(r), someSpace(r)
			spaced += s[end:x.At] + ahead
			at = append(at, len(spaced))
			end = x.At + len(lexer.Spell(x))
			spaced += s[x.At:end] + behind
		}
		spaced += s[end:]
		got, _, e := lexer.Lex(spaced)
		for i, x := range got {
			if i < len(at) && x.At != at[i] {
				t.Errorf("token %d of %q: %v", i, spaced, x)
			}
		}
		if !sameTokens(got, l) || e != api.OK {
			t.Errorf("Lex of %q, with %q: %v, %d", s, spaced, got, e)
		}
		checkTokens(t, someSpace(r)+s, l)
		checkTokens(t, s+"\n"+someEnd(r), l)
	})
}

// P10.4: white space of every kind, at every place of one source.
func TestWhiteSpaceAtEachPlace(t *testing.T) {
	l := list(word("set"), word("t"), sign("("), number("1"), sign("."), sign("."), number("2.5"), sign(")"), sign("<="), text(`a "#\`), text(""), sign("<"), sign("*"), sign("="), word("b2"), sign(";"))
	for _, space := range []string{" ", "\t", "\n", "  \t\n\n", "#\n", "# a $ \"\n", "##\"\n\t", " #\x80\n", "\n#\r\n"} {
		for i := range len(l) + 1 {
			checkTokens(t, lexer.Join(l[:i])+space+lexer.Join(l[i:]), l)
			checkTokens(t, lexer.Join(l[:i])+" "+space+lexer.Join(l[i:]), l)
		}
	}
	for _, end := range []string{"#", "# a", " #\"", "\n#$", "\t"} {
		checkTokens(t, lexer.Join(l)+end, l)
	}
}

// P10.5: two sources with a line feed in between have the tokens of both.
func TestConcatenation(t *testing.T) {
	r := newRand()
	var sources []string
	wellFormed(t, func(s string, l []lexer.Token) {
		if len(sources) == 0 || r.IntN(20) == 0 {
			sources = append(sources, s)
		}
		second := pick(r, sources...)
		m, _, _ := lexer.Lex(second)
		want := slices.Concat(l, moved(m, len(s)+1))
		if got, at, e := lexer.Lex(s + "\n" + second); !slices.Equal(got, want) || at != 0 || e != api.OK {
			t.Errorf("Lex of %q and %q: %v, %d, %d", s, second, got, at, e)
		}
	})
}

// P10.6: what is ahead of an error offset is well-formed, and a blank ahead shifts it by 1.
func TestErrors(t *testing.T) {
	n := 0
	check := func(s string) {
		_, at, e := lexer.Lex(s)
		if e == api.OK {
			return
		}
		n++
		if e != api.ErrForm || at < 0 || at >= len(s) {
			t.Fatalf("Lex of %q: %d, %d", s, at, e)
		}
		if l, _, e := lexer.Lex(s[:at]); e != api.OK {
			t.Errorf("Lex of %q, of which %q is ahead of the error: %v, %d", s, s[:at], l, e)
		}
		if l, shifted, e := lexer.Lex(" " + s); l != nil || shifted != at+1 || e != api.ErrForm {
			t.Errorf("Lex of %q with a blank ahead: %v, %d instead of %d, %d", s, l, shifted, at+1, e)
		}
	}
	eachShortSource(check)
	eachLongSource(check)
	eachSomeSource(newRand(), 5000, check)
	if n < 50000 {
		t.Errorf("only %d sources were not well-formed", n)
	}
}

// P10.7: line and byte numbers determine the offset.
func TestLinesDetermineOffsets(t *testing.T) {
	check := func(s string) {
		lines := strings.SplitAfter(s, "\n")
		for at := range len(s) + 1 {
			line, column := lexer.Line(s, at)
			if line < 1 || line > len(lines) || column < 1 {
				t.Fatalf("Line of %d in %q: %d, %d", at, s, line, column)
			}
			offset := column - 1
			for _, ahead := range lines[:line-1] {
				offset += len(ahead)
			}
			if offset != at {
				t.Errorf("Line of %d in %q: %d, %d", at, s, line, column)
			}
		}
	}
	eachSource([]string{"a", "\n", "\r", "é"}, 6, check)
	eachSomeSource(newRand(), 500, check)
}

package value_test

import (
	"bytes"
	"math"
	"slices"
	"strings"
	"testing"

	"chapman/api"
	"chapman/bitpack"
	"chapman/value"
)

// These tests are for P6.1 (contract), for F6 and for P1 of the document.

// short returns the first elements of a list, for a message.
func short[T any](l []T) []T { return l[:min(len(l), 40)] }

func checkValue(t *testing.T, v api.Value) {
	t.Helper()
	if got, want := value.Valid(v), modelValid(v); got != want {
		t.Errorf("Valid(%v): %t", v, got)
	}
	if got, want := value.Wide(v), modelWide(v); got != want {
		t.Errorf("Wide(%v): %t", v, got)
	}
	if got, want := value.Text(v), modelText(v); got != want {
		t.Errorf("Text(%v): %q instead of %q", v, got, want)
	}
}

func checkParse(t *testing.T, s string) {
	t.Helper()
	v, e := value.Parse(s)
	if want, wantE := modelParse(s); v != want || e != wantE {
		t.Errorf("Parse of %d bytes %q: %v, %d instead of %v, %d", len(s), s[:min(len(s), 60)], v, e, want, wantE)
	}
}

func checkRead(t *testing.T, b []byte) {
	t.Helper()
	v, rest, e := value.Read(b)
	want, used, wantE := modelRead(b)
	if v != want || !bytes.Equal(rest, restOf(b, used, wantE)) || e != wantE || e != api.OK && rest != nil {
		t.Errorf("Read(%v): %v, %v, %d instead of %v, %d bytes, %d", short(b), v, short(rest), e, want, used, wantE)
	}
}

func checkReadList(t *testing.T, b []byte) {
	t.Helper()
	l, rest, e := value.ReadList(b)
	want, used, wantE := modelReadList(b)
	if !slices.Equal(l, want) || !bytes.Equal(rest, restOf(b, used, wantE)) || e != wantE || e != api.OK && (l != nil || rest != nil) {
		t.Errorf("ReadList(%v): %v, %v, %d instead of %v, %d bytes, %d", short(b), short(l), short(rest), e, short(want), used, wantE)
	}
}

// restOf returns the bytes behind those that were used, and none with an error.
func restOf(b []byte, used int, e api.Errno) []byte {
	if e != api.OK {
		return nil
	}
	return b[used:]
}

func TestExamples(t *testing.T) {
	for _, c := range []struct {
		v api.Value
		s string
	}{{null(), "null"}, {yes(), "true"}, {num(-500000), "-0.5"}, {str("a\"b"), "\"a\\\"b\""}} {
		if s := value.Text(c.v); s != c.s {
			t.Errorf("Text(%v): %s", c.v, s)
		}
		if v, e := value.Parse(c.s); v != c.v || e != api.OK {
			t.Errorf("Parse(%s): %v, %d", c.s, v, e)
		}
	}
	for _, c := range []struct {
		v api.Value
		b []byte
	}{{num(1000000), []byte{2, 128, 137, 122}}, {str("ab"), []byte{3, 2, 97, 98}}} {
		if b := value.Append(nil, c.v); !bytes.Equal(b, c.b) {
			t.Errorf("Append of %v: %v", c.v, b)
		}
		if v, rest, e := value.Read(c.b); v != c.v || len(rest) != 0 || e != api.OK {
			t.Errorf("Read(%v): %v, %v, %d", c.b, v, rest, e)
		}
	}
	places := api.Type{K: api.VNum, Scale: 2}
	if !value.Has(places, num(250000)) || value.Has(places, num(125000)) || value.Has(places, null()) {
		t.Errorf("Has(%v): %t, %t, %t", places, value.Has(places, num(250000)), value.Has(places, num(125000)), value.Has(places, null()))
	}
	if places.Null = true; !value.Has(places, null()) {
		t.Errorf("%v has no null", places)
	}
}

func TestValidAndWide(t *testing.T) {
	for _, c := range []struct {
		v           api.Value
		valid, wide bool
	}{
		{null(), true, true}, {no(), true, true}, {yes(), true, true}, {api.Value{I: 1}, false, false}, {api.Value{S: " "}, false, false},
		{api.Value{K: 1, I: 2}, false, false}, {api.Value{K: 1, I: -1}, false, false}, {api.Value{K: 1, S: "a"}, false, false}, {api.Value{K: 1, I: 256}, false, false},
		{num(0), true, true}, {num(most), true, true}, {num(-most), true, true}, {num(most + 1), false, true}, {num(-most - 1), false, true}, {num(mostSum), false, true}, {num(-mostSum), false, true}, {num(mostSum + 1), false, false}, {num(-mostSum - 1), false, false}, {num(least), false, false}, {num(greatest), false, false}, {api.Value{K: 2, I: 1, S: "1"}, false, false}, {api.Value{K: 2, I: mostSum, S: "1"}, false, false},
		{str(""), true, true}, {str(" ~"), true, true}, {str("\x1f"), false, false}, {str("\x7f"), false, false}, {str("\u00e4"), false, false}, {str("a\x00"), false, false}, {str(strings.Repeat("x", 40)), true, true}, {str(strings.Repeat("x", 41)), false, false}, {str(strings.Repeat("x", 1<<20)), false, false}, {api.Value{K: 3, I: 1, S: "a"}, false, false}, {api.Value{K: 3, I: 1}, false, false},
		{api.Value{K: 4}, false, false}, {api.Value{K: -1}, false, false}, {api.Value{K: 256}, false, false}, {api.Value{K: 1<<32 + 2, I: 1}, false, false},
	} {
		if value.Valid(c.v) != c.valid || value.Wide(c.v) != c.wide {
			t.Errorf("%v: %t, %t", c.v, value.Valid(c.v), value.Wide(c.v))
		}
		checkValue(t, c.v)
	}
}

func TestValuesFollowTheModel(t *testing.T) {
	for _, v := range edgeValues() {
		checkValue(t, v)
	}
	eachWide(func(v api.Value) { checkValue(t, v) })
	r := newRand()
	for range 10000 {
		checkValue(t, num(someNumber(r, 63)))
		v := someValue(r)
		v.K += r.IntN(3) - 1
		checkValue(t, v)
		b := []byte(someText(r, 45))
		if len(b) > 0 {
			b[r.IntN(len(b))] = byte(r.IntN(256))
		}
		checkValue(t, str(string(b)))
	}
}

func eachType(f func(t api.Type)) {
	for _, k := range []int{least, -1, 0, 1, 2, 3, 4, 5, 256, 257, 258, 259, greatest} {
		for _, scale := range []int{least, -7, -1, 0, 1, 2, 3, 4, 5, 6, 7, 8, 256, 262, greatest} {
			f(api.Type{K: k, Scale: scale})
			f(api.Type{K: k, Scale: scale, Null: true})
		}
	}
}

func TestValidType(t *testing.T) {
	for _, c := range []struct {
		t  api.Type
		ok bool
	}{
		{api.Type{}, false}, {api.Type{Null: true}, false}, {api.Type{K: 1}, true}, {api.Type{K: 1, Null: true}, true}, {api.Type{K: 1, Scale: 1}, false}, {api.Type{K: 3}, true}, {api.Type{K: 3, Scale: 6}, false}, {api.Type{K: 3, Scale: -1}, false}, {api.Type{K: 2}, true}, {api.Type{K: 2, Scale: 6, Null: true}, true}, {api.Type{K: 2, Scale: 7}, false}, {api.Type{K: 2, Scale: -1}, false}, {api.Type{K: 4}, false}, {api.Type{K: -1}, false},
	} {
		if value.ValidType(c.t) != c.ok {
			t.Errorf("ValidType(%v): %t", c.t, !c.ok)
		}
	}
	eachType(func(typ api.Type) {
		if got, want := value.ValidType(typ), slices.Contains(validTypes(), typ); got != want {
			t.Errorf("ValidType(%v): %t", typ, got)
		}
	})
}

func TestHas(t *testing.T) {
	check := func(typ api.Type, v api.Value) {
		if got, want := value.Has(typ, v), modelHas(typ, v); got != want {
			t.Errorf("Has(%v, %v): %t", typ, v, got)
		}
	}
	for _, typ := range validTypes() {
		for _, v := range edgeValues() {
			check(typ, v)
		}
	}
	few := []api.Value{null(), no(), yes(), num(0), num(1), num(unit), num(-most), num(most + unit), str(""), str("a"), {K: 1, I: 2}, {K: 4}, {K: -1}}
	eachType(func(typ api.Type) {
		for _, v := range few {
			check(typ, v)
		}
	})
	r := newRand()
	for range 2000 {
		v := someWide(r)
		for _, typ := range validTypes() {
			check(typ, v)
		}
	}
}

func TestCmp(t *testing.T) {
	increasing := []api.Value{{K: least, I: 9, S: "z"}, {K: -1}, null(), {S: "a"}, {I: 1}, no(), yes(), {K: 1, I: 2}, num(least), num(-most), num(-2), num(-1), num(0), num(1), {K: 2, I: 1, S: "\x00"}, {K: 2, I: 1, S: "a"}, num(2), num(10), num(greatest), {K: 3, I: -1, S: "z"}, str(""), str("\x00"), str(" "), str("1"), str("10"), str("2"), str("A"), str("B"), str("a"), str("a "), str("ab"), str("b"), str("\x7f"), str("\x80"), str("\u00e4"), str("\xff"), {K: 3, I: 1}, {K: 4}}
	for i, a := range increasing {
		for j, b := range increasing {
			if got, want := value.Cmp(a, b), min(1, max(-1, i-j)); got != want {
				t.Errorf("Cmp(%v, %v): %d", a, b, got)
			}
		}
	}
}

func TestCmpFollowsTheModel(t *testing.T) {
	edges := edgeValues()
	check := func(a, b api.Value) {
		if got, want := value.Cmp(a, b), modelCmp(a, b); got != want {
			t.Errorf("Cmp(%v, %v): %d instead of %d", a, b, got, want)
		}
	}
	for i, a := range edges {
		for _, b := range edges[i%7:] {
			check(a, b)
		}
	}
	r := newRand()
	for range 20000 {
		check(someWide(r), someWide(r))
		s := someText(r, 6)
		check(str(s), str(s[:r.IntN(len(s)+1)]+someText(r, 1)))
	}
}

func TestCmpList(t *testing.T) {
	list := func(l ...api.Value) []api.Value { return l }
	increasing := [][]api.Value{nil, list(null()), list(null(), null()), list(null(), no()), list(null(), no(), null()), list(null(), yes()), list(no()), list(no(), str("z"), yes()), list(yes(), null()), list(yes(), num(2)), list(yes(), num(10)), list(yes(), str("")), list(num(-1), str("z")), list(num(0)), list(str(""), str("b")), list(str("a")), list(str("a"), null()), list(str("a"), str("")), list(str("ab"))}
	for i, a := range increasing {
		for j, b := range increasing {
			if got, want := value.CmpList(a, b), min(1, max(-1, i-j)); got != want {
				t.Errorf("CmpList(%v, %v): %d", a, b, got)
			}
		}
	}
	if c := value.CmpList(nil, []api.Value{}); c != 0 {
		t.Errorf("CmpList of two lists without elements: %d", c)
	}
	check := func(a, b []api.Value) {
		if got, want := value.CmpList(a, b), modelCmpList(a, b); got != want {
			t.Errorf("CmpList(%v, %v): %d instead of %d", short(a), short(b), got, want)
		}
	}
	alphabet := []api.Value{null(), yes(), num(3), {K: 9}}
	eachLonger(nil, alphabet, 3, func(a []api.Value) {
		eachLonger(nil, alphabet, 3, func(b []api.Value) { check(a, b) })
	})
	r := newRand()
	for range 20000 {
		a := someList(r, 6)
		b := slices.Clone(a[:r.IntN(len(a)+1)])
		check(a, b)
		b = append(b, someWide(r))
		check(a, b)
		check(b, a)
		check(a, someList(r, 6))
	}
}

func TestTexts(t *testing.T) {
	for _, c := range []struct {
		v api.Value
		s string
	}{
		{null(), "null"}, {no(), "false"}, {yes(), "true"}, {num(0), "0"}, {num(1), "0.000001"}, {num(-1), "-0.000001"}, {num(100000), "0.1"}, {num(12000000), "12"}, {num(-12345678), "-12.345678"}, {num(most), "1000000000"}, {num(-most), "-1000000000"},
		{str(""), `""`}, {str(" "), `" "`}, {str("ab"), `"ab"`}, {str("null"), `"null"`}, {str("1"), `"1"`}, {str("'"), `"'"`}, {str("\""), `"\""`}, {str("\\"), `"\\"`}, {str("\\\""), `"\\\""`}, {str("\"\\"), `"\"\\"`}, {str("\\\\"), `"\\\\"`}, {str("a\"b\\c"), `"a\"b\\c"`}, {str("\\n"), `"\\n"`}, {str(strings.Repeat("\"", 40)), `"` + strings.Repeat(`\"`, 40) + `"`}, {str(strings.Repeat("\\", 40)), `"` + strings.Repeat(`\\`, 40) + `"`},
	} {
		if s := value.Text(c.v); s != c.s {
			t.Errorf("Text(%v): %s instead of %s", c.v, s, c.s)
		}
		if v, e := value.Parse(c.s); v != c.v || e != api.OK {
			t.Errorf("Parse(%s): %v, %d instead of %v", c.s, v, e, c.v)
		}
	}
	for _, c := range []struct {
		n int
		s string
	}{{most + 1, "1000000000.000001"}, {mostSum, "4000000000000"}, {-mostSum, "-4000000000000"}} {
		if s := value.Text(num(c.n)); s != c.s {
			t.Errorf("Text of the wide number %d: %s", c.n, s)
		}
		if v, e := value.Parse(c.s); v != null() || e != api.ErrForm {
			t.Errorf("Parse(%s): %v, %d", c.s, v, e)
		}
	}
	for _, v := range []api.Value{{I: 1}, {S: "a"}, {K: 1, I: 2}, {K: 1, I: -1}, {K: 1, I: 1, S: "a"}, num(mostSum + 1), num(-mostSum - 1), num(least), {K: 2, S: "0"}, str("\n"), str("\x7f"), str(strings.Repeat("a", 41)), {K: 3, I: 1, S: "a"}, {K: 4}, {K: -1}} {
		if s := value.Text(v); s != "" {
			t.Errorf("Text(%v): %q", v, s)
		}
	}
}

func TestParseOfOtherStrings(t *testing.T) {
	for _, s := range []string{
		"", " ", "nul", "nulll", "Null", "NULL", " null", "null ", "nil", "tru", "True", "TRUE", "truee", "t", "1true", "falsee", "False", "false\n", "f",
		"-", "+1", "01", "00", "-01", "1.", ".5", "-.5", "1.0", "1.50", "-0", "0.0", "-0.0", "0.0000001", "1.2345678", "1e3", "0x1", "1_0", "1 ", " 1", "--1", "1-", "1,5", "\u0661", "1000000000.000001", "1000000001", "-1000000000.000001", "9223372036854775808", "-99999999999999999999999", "Inf", "NaN",
		"\"", "\"a", "a\"", "a", "\"a\"\"", "\"\"a\"", "\"a\"b\"", "\"a\" ", " \"a\"", "\"\\\"", "\"\\\\\"\"", "\"\\\\\\\"", "\"a\\", "\"\\a\"", "\"\\n\"", "\"\\u0041\"", "\"\\'\"", "\"\\ \"", "\"\n\"", "\"\x1f\"", "\"\x7f\"", "\"\u00e4\"", "\"\xff\"", "\"\x00\"", "'a'", "`a`", "\"\"\"", "\"\"\"\"", "\\\"\\\"", "\"" + strings.Repeat("a", 41) + "\"", "\"" + strings.Repeat("\\\"", 41) + "\"", "\"" + strings.Repeat("\\\\", 41) + "\"",
	} {
		if v, e := value.Parse(s); v != null() || e != api.ErrForm {
			t.Errorf("Parse(%q): %v, %d", s, v, e)
		}
		checkParse(t, s)
	}
}

func TestParseOfShortStrings(t *testing.T) {
	check := func(s string) { checkParse(t, s) }
	eachString("", "\"\\a \n", 6, check)
	eachString("\"", "\"\\n", 8, check)
	eachString("", "-.015", 6, check)
	eachString("", "0.e+-x\"", 5, check)
	for x := range 256 {
		one := string([]byte{byte(x)})
		for _, s := range []string{"", "\"", "\"a", "\"\\", "1", "null", "tru", "-"} {
			for _, behind := range []string{"", "\"", "\\\"", "1", "e", "a\""} {
				check(s + one + behind)
			}
		}
	}
}

func TestParseOfChangedTexts(t *testing.T) {
	r := newRand()
	characters := "\"\\a 019.-nultrefs\n\x7f\xff"
	eachWide(func(v api.Value) {
		s := modelText(v)
		checkParse(t, s)
		i := r.IntN(len(s))
		c := characters[r.IntN(len(characters)):][:1]
		for _, changed := range []string{s[:i] + c + s[i+1:], s[:i] + c + s[i:], s[:i] + s[i+1:], s[:i], s + c, c + s, s[i:], strings.ToUpper(s), s + s} {
			checkParse(t, changed)
		}
	})
}

// P1: strings of any length.
func TestParseOfLongStrings(t *testing.T) {
	for _, c := range []string{"\"", "\\", "a", "0", "1", "-", ".", " ", "\\\"", "null", "\xff"} {
		long := strings.Repeat(c, 1<<20)
		for _, s := range []string{long, "\"" + long, "\"" + long + "\"", "1" + long, "0." + long, long + "1"} {
			if v, e := value.Parse(s); v != null() || e != api.ErrForm {
				t.Errorf("Parse of %d bytes that begin with %q: %v, %d", len(s), s[:9], v, e)
			}
		}
	}
}

func TestAppend(t *testing.T) {
	long := strings.Repeat("~", 40)
	for _, c := range []struct {
		v api.Value
		b []byte
	}{
		{null(), []byte{0}}, {no(), []byte{1, 0}}, {yes(), []byte{1, 1}}, {num(0), []byte{2, 0}}, {num(-1), []byte{2, 1}}, {num(1), []byte{2, 2}}, {num(-64), []byte{2, 127}}, {num(64), []byte{2, 128, 1}}, {num(mostSum), []byte{2, 128, 128, 128, 217, 211, 179, 237, 130, 111}}, {num(-mostSum), []byte{2, 255, 255, 255, 216, 211, 179, 237, 130, 111}},
		{str(""), []byte{3, 0}}, {str(" "), []byte{3, 1, 32}}, {str("~\"\\"), []byte{3, 3, 126, 34, 92}}, {str(long), append([]byte{3, 40}, long...)},
	} {
		for _, ahead := range [][]byte{nil, {}, {0}, {7, 255}} {
			if b := value.Append(ahead, c.v); !bytes.Equal(b, slices.Concat(ahead, c.b)) {
				t.Errorf("Append(%v, %v): %v instead of %v", ahead, c.v, b, c.b)
			}
		}
		if v, rest, e := value.Read(c.b); v != c.v || len(rest) != 0 || e != api.OK {
			t.Errorf("Read(%v): %v, %v, %d", c.b, v, rest, e)
		}
	}
	eachWide(func(v api.Value) {
		if b, want := value.Append([]byte{9}, v), append([]byte{9}, modelForm(v)...); !bytes.Equal(b, want) {
			t.Errorf("Append of %v: %v instead of %v", v, b, want)
		}
	})
}

func TestRead(t *testing.T) {
	high := bytes.Repeat([]byte{255}, 10)
	code := func(kind byte, u uint64) []byte { return bitpack.Varint([]byte{kind}, u) }
	text := func(n int, s string) []byte { return append(code(3, uint64(n)), s...) }
	long := strings.Repeat("a", 50)
	for _, c := range []struct {
		b    []byte
		v    api.Value
		rest []byte
		e    api.Errno
	}{
		{nil, null(), nil, api.ErrShort}, {[]byte{}, null(), nil, api.ErrShort},
		{[]byte{0}, null(), nil, api.OK}, {[]byte{0, 0, 4}, null(), []byte{0, 4}, api.OK},
		{[]byte{4}, null(), nil, api.ErrForm}, {[]byte{4, 0}, null(), nil, api.ErrForm}, {[]byte{128, 0}, null(), nil, api.ErrForm}, {[]byte{130, 0, 0}, null(), nil, api.ErrForm}, {[]byte{255}, null(), nil, api.ErrForm},
		{[]byte{1}, null(), nil, api.ErrShort}, {[]byte{1, 0}, no(), nil, api.OK}, {[]byte{1, 1, 2}, yes(), []byte{2}, api.OK}, {[]byte{1, 2}, null(), nil, api.ErrForm}, {[]byte{1, 128, 0}, null(), nil, api.ErrForm}, {[]byte{1, 255}, null(), nil, api.ErrForm},
		{[]byte{2}, null(), nil, api.ErrShort}, {[]byte{2, 128}, null(), nil, api.ErrShort}, {[]byte{2, 128, 0}, null(), nil, api.ErrForm}, {[]byte{2, 3, 3}, num(-2), []byte{3}, api.OK}, {append([]byte{2}, high[:9]...), null(), nil, api.ErrShort}, {append([]byte{2}, high...), null(), nil, api.ErrForm},
		// Numbers that are wide, and those that are not.
		{code(2, 2*mostSum), num(mostSum), nil, api.OK}, {code(2, 2*mostSum-1), num(-mostSum), nil, api.OK}, {code(2, 2*mostSum+2), null(), nil, api.ErrForm}, {code(2, 2*mostSum+1), null(), nil, api.ErrForm}, {code(2, math.MaxUint64), null(), nil, api.ErrForm}, {code(2, math.MaxUint64-1), null(), nil, api.ErrForm},
		{[]byte{3}, null(), nil, api.ErrShort}, {[]byte{3, 128}, null(), nil, api.ErrShort}, {[]byte{3, 128, 0}, null(), nil, api.ErrForm}, {[]byte{3, 0}, str(""), nil, api.OK}, {[]byte{3, 0, 97}, str(""), []byte{97}, api.OK}, {[]byte{3, 2, 97, 98, 99}, str("ab"), []byte{99}, api.OK}, {append([]byte{3}, high...), null(), nil, api.ErrForm},
		// A length that is too great, before bytes are missing, and these before those that no text has.
		{text(40, long), str(long[:40]), []byte(long[40:]), api.OK}, {text(40, long[:39]), null(), nil, api.ErrShort}, {text(41, ""), null(), nil, api.ErrForm}, {text(41, long), null(), nil, api.ErrForm}, {code(3, math.MaxUint64), null(), nil, api.ErrForm}, {code(3, 1<<63), null(), nil, api.ErrForm}, {append(code(3, 1<<32+1), 97), null(), nil, api.ErrForm}, {append(code(3, 257), 97), null(), nil, api.ErrForm}, {text(2, "a"), null(), nil, api.ErrShort}, {text(2, "\n"), null(), nil, api.ErrShort}, {text(2, ""), null(), nil, api.ErrShort}, {text(2, "\n\n"), null(), nil, api.ErrForm},
		{text(1, "\x1f"), null(), nil, api.ErrForm}, {text(1, " "), str(" "), nil, api.OK}, {text(1, "~"), str("~"), nil, api.OK}, {text(1, "\x7f"), null(), nil, api.ErrForm}, {text(2, "a\x80"), null(), nil, api.ErrForm}, {text(2, "\u00e4"), null(), nil, api.ErrForm}, {text(1, "a\n"), str("a"), []byte("\n"), api.OK}, {text(40, long[:39]+"\xff"), null(), nil, api.ErrForm}, {text(40, "\x00"+long), null(), nil, api.ErrForm},
	} {
		v, rest, e := value.Read(c.b)
		if v != c.v || !bytes.Equal(rest, c.rest) || e != c.e {
			t.Errorf("Read(%v): %v, %v, %d instead of %v, %v, %d", c.b, v, rest, e, c.v, c.rest, c.e)
		}
		checkRead(t, c.b)
	}
}

func TestReadOfShortSequences(t *testing.T) {
	var all []byte
	for x := range 256 {
		all = append(all, byte(x))
	}
	for _, check := range []func(b []byte){func(b []byte) { checkRead(t, b) }, func(b []byte) { checkReadList(t, b) }} {
		eachLonger(nil, all, 2, check)
		eachLonger([]byte{2}, all, 2, check)
		eachLonger([]byte{3, 2}, all, 2, check)
		eachLonger(nil, []byte{0, 1, 2, 3, 4, 97, 128, 255}, 5, check)
		eachLonger([]byte{2, 255, 255, 255, 255, 255, 255, 255}, []byte{0, 1, 111, 112, 127, 128, 255}, 4, check)
		eachLonger([]byte{1, 2, 255, 255, 255, 255, 255, 255, 255}, []byte{0, 1, 111, 112, 127, 128, 255}, 4, check)
	}
}

// changes calls f with a form that was changed, cut short or made longer at one place.
func changes(r interface{ IntN(int) int }, b []byte, f func(b []byte)) {
	f(b)
	i := r.IntN(len(b))
	f(b[:i])
	f(append(slices.Clone(b), byte(r.IntN(256))))
	f(slices.Delete(slices.Clone(b), i, i+1))
	f(slices.Insert(slices.Clone(b), i, byte(r.IntN(256))))
	flipped := slices.Clone(b)
	flipped[i] ^= 1 << r.IntN(8)
	f(flipped)
}

func TestReadOfChangedForms(t *testing.T) {
	r := newRand()
	check := func(b []byte) { checkRead(t, b) }
	eachWide(func(v api.Value) { changes(r, modelForm(v), check) })
	for _, v := range edgeValues() {
		if v.K == 2 || v.K == 3 {
			check(modelForm(v))
			check(append(modelForm(v), 0))
		}
	}
}

// P1: any bytes.
func TestReadOfAnyBytes(t *testing.T) {
	r := newRand()
	for range 40000 {
		b := make([]byte, r.IntN(30))
		for i := range b {
			b[i] = byte(r.Uint64() >> r.IntN(64))
		}
		checkRead(t, b)
		checkReadList(t, b)
	}
	for _, n := range []byte{0, 1, 2, 3, 4, 255} {
		for _, x := range []byte{0, 1, 2, 3, 97, 127, 128, 255} {
			b := append([]byte{n}, bytes.Repeat([]byte{x}, 1<<20)...)
			checkRead(t, b)
			checkReadList(t, b)
			checkReadList(t, append([]byte{128, 32}, b...))
		}
	}
}

func TestAppendList(t *testing.T) {
	for _, c := range []struct {
		l []api.Value
		b []byte
	}{
		{nil, []byte{0}}, {[]api.Value{null()}, []byte{1, 0}}, {[]api.Value{no(), yes()}, []byte{2, 1, 0, 1, 1}}, {[]api.Value{yes(), str("x"), null()}, []byte{3, 1, 1, 3, 1, 120, 0}}, {[]api.Value{str(""), num(-1), num(unit)}, []byte{3, 3, 0, 2, 1, 2, 128, 137, 122}}, {make([]api.Value, 128), append([]byte{128, 1}, make([]byte, 128)...)},
	} {
		for _, ahead := range [][]byte{nil, {}, {0}, {7, 255}} {
			if b := value.AppendList(ahead, c.l); !bytes.Equal(b, slices.Concat(ahead, c.b)) {
				t.Errorf("AppendList(%v, %v): %v instead of %v", ahead, short(c.l), short(b), short(c.b))
			}
		}
		if l, rest, e := value.ReadList(c.b); !slices.Equal(l, c.l) || len(rest) != 0 || e != api.OK {
			t.Errorf("ReadList(%v): %v, %v, %d", short(c.b), short(l), rest, e)
		}
	}
	eachList(func(l []api.Value) {
		if b, want := value.AppendList([]byte{9}, l), append([]byte{9}, modelListForm(l)...); !bytes.Equal(b, want) {
			t.Errorf("AppendList of %v: %v instead of %v", short(l), short(b), short(want))
		}
	})
}

func TestReadList(t *testing.T) {
	high := bytes.Repeat([]byte{255}, 10)
	for _, c := range []struct {
		b    []byte
		l    []api.Value
		rest []byte
		e    api.Errno
	}{
		{nil, nil, nil, api.ErrShort}, {[]byte{128}, nil, nil, api.ErrShort}, {[]byte{128, 0}, nil, nil, api.ErrForm}, {high, nil, nil, api.ErrForm}, {high[:9], nil, nil, api.ErrShort},
		{[]byte{0}, nil, nil, api.OK}, {[]byte{0, 4}, nil, []byte{4}, api.OK}, {[]byte{1, 0, 4}, []api.Value{null()}, []byte{4}, api.OK}, {[]byte{2, 1, 1, 3, 1, 97, 128}, []api.Value{yes(), str("a")}, []byte{128}, api.OK},
		// The length, before the values.
		{[]byte{128, 32}, nil, nil, api.ErrShort}, {[]byte{129, 32}, nil, nil, api.ErrForm}, {[]byte{129, 32, 4}, nil, nil, api.ErrForm}, {bitpack.Varint(nil, math.MaxUint64), nil, nil, api.ErrForm}, {bitpack.Varint(nil, 1<<63), nil, nil, api.ErrForm}, {append(bitpack.Varint(nil, 1<<32+1), 0), nil, nil, api.ErrForm},
		// The first value that is wrong.
		{[]byte{1}, nil, nil, api.ErrShort}, {[]byte{2, 0}, nil, nil, api.ErrShort}, {[]byte{2, 0, 5}, nil, nil, api.ErrForm}, {[]byte{2, 0, 3}, nil, nil, api.ErrShort}, {[]byte{3, 1, 2}, nil, nil, api.ErrForm}, {[]byte{3, 0, 2, 128, 0}, nil, nil, api.ErrForm}, {[]byte{3, 3, 41}, nil, nil, api.ErrForm}, {[]byte{1, 3, 1, 10}, nil, nil, api.ErrForm}, {[]byte{2, 3, 2, 10, 4}, nil, nil, api.ErrForm},
	} {
		l, rest, e := value.ReadList(c.b)
		if !slices.Equal(l, c.l) || !bytes.Equal(rest, c.rest) || e != c.e {
			t.Errorf("ReadList(%v): %v, %v, %d instead of %v, %v, %d", c.b, l, rest, e, c.l, c.rest, c.e)
		}
		checkReadList(t, c.b)
	}
}

// As many values as can be, and one more.
func TestReadListOfManyValues(t *testing.T) {
	for _, v := range []api.Value{null(), yes(), num(-mostSum), str(strings.Repeat("~", 40))} {
		l := slices.Repeat([]api.Value{v}, mostList)
		if got, rest, e := value.ReadList(append(modelListForm(l), 7)); !slices.Equal(got, l) || !bytes.Equal(rest, []byte{7}) || e != api.OK {
			t.Errorf("ReadList of %d times %v: %d values, %v, %d", len(l), v, len(got), rest, e)
		}
		if got, rest, e := value.ReadList(modelListForm(append(l, v))); got != nil || rest != nil || e != api.ErrForm {
			t.Errorf("ReadList of %d times %v: %d values, %d bytes, %d", len(l)+1, v, len(got), len(rest), e)
		}
	}
}

func TestReadListOfChangedForms(t *testing.T) {
	r := newRand()
	eachList(func(l []api.Value) {
		if len(l) < 300 {
			changes(r, modelListForm(l), func(b []byte) { checkReadList(t, b) })
		}
	})
}

// P1: values that have no byte form do not stop Append.
func TestAppendOfOtherValues(t *testing.T) {
	l := edgeValues()
	for _, v := range l {
		value.Append(nil, v)
	}
	value.AppendList(nil, l)
}

// spoil changes all bytes.
func spoil(b []byte) {
	for i := range b {
		b[i]++
	}
}

// F6: what a call must not change is what its arguments refer to, the room behind them included.
func TestArgumentsStay(t *testing.T) {
	check := func(ahead int, form func(b []byte) []byte, want []byte) {
		t.Helper()
		room := bytes.Repeat([]byte{77}, ahead+len(want)+9)
		whole := slices.Concat(room[:ahead], want)
		first, second := form(room[:ahead]), form(room[:ahead])
		spoil(append(second, 5))
		spoil(second)
		if !bytes.Equal(room, bytes.Repeat([]byte{77}, len(room))) {
			t.Errorf("what was put behind %d bytes changed them to %v", ahead, short(room))
		}
		if !bytes.Equal(first, whole) {
			t.Errorf("two results share memory: %v instead of %v", short(first), short(whole))
		}
	}
	checkBytes := func(b []byte, read func(b []byte) []byte) {
		t.Helper()
		room := slices.Concat(b, bytes.Repeat([]byte{77}, 20))
		before := slices.Clone(room)
		rest := read(room[:len(b)+3])
		_ = append(rest, 5)
		if !bytes.Equal(room, before) {
			t.Errorf("reading changed %v to %v", short(before), short(room))
		}
	}
	eachWide(func(v api.Value) {
		for _, ahead := range []int{0, 1, 5} {
			check(ahead, func(b []byte) []byte { return value.Append(b, v) }, modelForm(v))
		}
		checkBytes(modelForm(v), func(b []byte) []byte {
			_, rest, _ := value.Read(b)
			return rest
		})
	})
	eachList(func(l []api.Value) {
		room := append(slices.Clone(l), yes(), str("~"))
		before := slices.Clone(room)
		l = room[:len(l)]
		check(len(l)%3, func(b []byte) []byte { return value.AppendList(b, l) }, modelListForm(l))
		value.CmpList(l, room)
		checkBytes(modelListForm(l), func(b []byte) []byte {
			got, rest, _ := value.ReadList(b)
			for i := range got {
				got[i].I++
			}
			return rest
		})
		if !slices.Equal(room, before) {
			t.Errorf("a function changed %v to %v", short(before), short(room))
		}
	})
}

// The text that Read returns stays when the bytes change.
func TestTextsAreCopied(t *testing.T) {
	b := []byte{1, 3, 2, 97, 98}
	v, _, _ := value.Read(b[1:])
	l, _, _ := value.ReadList(b)
	b[3], b[4] = 0, 0
	if v != str("ab") || !slices.Equal(l, []api.Value{str("ab")}) {
		t.Errorf("%v and %v behind a change of the bytes", v, l)
	}
}

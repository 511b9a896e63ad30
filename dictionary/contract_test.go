package dictionary_test

import (
	"bytes"
	"math"
	"slices"
	"strings"
	"testing"

	"chapman/api"
	"chapman/bitpack"
	"chapman/dictionary"
)

// These tests are for P5.1 (contract), for E5 and for P1 of the document.

// some returns the first elements of a list, for a message.
func some[T any](l []T) []T { return l[:min(len(l), 40)] }

func checkOf(t *testing.T, l []string) {
	t.Helper()
	if d, want := dictionary.Of(l), modelOf(l); !slices.Equal(d, want) {
		t.Errorf("Of(%q): %q instead of %q", some(l), some(d), some(want))
	}
}

// checkList holds what needs a dictionary against the model, for any list.
func checkList(t *testing.T, d []string) {
	t.Helper()
	if ok, want := dictionary.Valid(d), modelValid(d); ok != want {
		t.Errorf("Valid of %d strings %q: %t", len(d), some(d), ok)
	}
	b, e := dictionary.Pack(d)
	if want, wantE := modelPack(d); !bytes.Equal(b, want) || e != wantE || e != api.OK && b != nil {
		t.Errorf("Pack of %d strings %q: %v, %d instead of %v, %d", len(d), some(d), some(b), e, some(want), wantE)
	}
}

func checkCodes(t *testing.T, d, l []string) {
	t.Helper()
	codes, e := dictionary.Codes(d, l)
	if want, wantE := modelCodes(d, l); !slices.Equal(codes, want) || e != wantE || e != api.OK && codes != nil {
		t.Errorf("Codes(%q, %q): %v, %d instead of %v, %d", some(d), some(l), some(codes), e, some(want), wantE)
	}
}

func checkStrings(t *testing.T, d []string, codes []int) {
	t.Helper()
	l, e := dictionary.Strings(d, codes)
	if want, wantE := modelStrings(d, codes); !slices.Equal(l, want) || e != wantE || e != api.OK && l != nil {
		t.Errorf("Strings(%q, %v): %q, %d instead of %q, %d", some(d), some(codes), some(l), e, some(want), wantE)
	}
}

func checkUnpack(t *testing.T, b []byte) {
	t.Helper()
	d, rest, e := dictionary.Unpack(b)
	want, used, wantE := modelUnpack(b)
	var behind []byte
	if wantE == api.OK {
		behind = b[used:]
	}
	if !slices.Equal(d, want) || !bytes.Equal(rest, behind) || e != wantE || e != api.OK && (d != nil || rest != nil) {
		t.Errorf("Unpack(%v): %q, %v, %d instead of %q, %v, %d", some(b), some(d), some(rest), e, some(want), some(behind), wantE)
	}
}

func TestExamples(t *testing.T) {
	d := dictionary.Of([]string{"b", "abc", "ab", "b"})
	if !slices.Equal(d, []string{"ab", "abc", "b"}) {
		t.Errorf("Of: %q", d)
	}
	if codes, e := dictionary.Codes(d, []string{"b", "ab"}); !slices.Equal(codes, []int{2, 0}) || e != api.OK {
		t.Errorf("Codes: %v, %d", codes, e)
	}
	form := []byte{3, 0, 2, 97, 98, 2, 1, 99, 0, 1, 98}
	if b, e := dictionary.Pack(d); !bytes.Equal(b, form) || e != api.OK {
		t.Errorf("Pack: %v, %d", b, e)
	}
	if got, rest, e := dictionary.Unpack(form); !slices.Equal(got, d) || len(rest) != 0 || e != api.OK {
		t.Errorf("Unpack: %q, %v, %d", got, rest, e)
	}
}

func TestOf(t *testing.T) {
	long := strings.Repeat("x", 1000)
	for _, c := range []struct{ l, d []string }{
		{nil, nil}, {[]string{}, nil}, {[]string{""}, []string{""}}, {[]string{"", "", ""}, []string{""}}, {[]string{"b", "a"}, []string{"a", "b"}}, {[]string{"a", "b", "a"}, []string{"a", "b"}},
		{[]string{"aa", "b", "a", ""}, []string{"", "a", "aa", "b"}}, {[]string{"10", "9", "1", "2"}, []string{"1", "10", "2", "9"}}, {[]string{"a", "B", "\x00", "\xff", "_"}, []string{"\x00", "B", "_", "a", "\xff"}},
		// Bytes count, not runes, whether they are proper or not.
		{[]string{"\U0001f600", "\uffff", "\xff", "\u00e4", "z", "\x80"}, []string{"z", "\x80", "\u00e4", "\uffff", "\U0001f600", "\xff"}},
		// The strings of no dictionary.
		{[]string{long, "y", long, long[:256]}, []string{long[:256], long, "y"}}, {make([]string, 100000), []string{""}},
	} {
		if d := dictionary.Of(c.l); !slices.Equal(d, c.d) {
			t.Errorf("Of(%q): %q instead of %q", some(c.l), some(d), c.d)
		}
	}
	check := func(l []string) { checkOf(t, l) }
	eachDictionary(func(d []string) {
		if len(d) <= 300 {
			check(d)
		}
	})
	eachList(func(l []string) {
		if len(l) <= 1000 {
			check(l)
		}
	})
	check(someStrings(newRand(), 3000, 300))
	many := numbered(2 * mostStrings)
	backwards := slices.Concat(many, many)
	slices.Reverse(backwards)
	if d := dictionary.Of(backwards); !slices.Equal(d, many) {
		t.Errorf("Of %d strings: %d strings", len(backwards), len(d))
	}
}

func TestValid(t *testing.T) {
	long := strings.Repeat("x", 256)
	for _, c := range []struct {
		d  []string
		ok bool
	}{
		{nil, true}, {[]string{}, true}, {[]string{""}, true}, {[]string{"", "a", "aa", "b"}, true}, {[]string{"a", "a\x00", "b"}, true}, {[]string{"\x7f", "\x80", "\xff"}, true}, {[]string{"\xc3", "\xc3\xa4"}, true},
		{[]string{"", ""}, false}, {[]string{"a", ""}, false}, {[]string{"a", "a"}, false}, {[]string{"b", "a"}, false}, {[]string{"aa", "a"}, false}, {[]string{"a", "b", "b"}, false}, {[]string{"a", "c", "b"}, false}, {[]string{"b", "a", "c"}, false}, {[]string{"\xff", "\x00"}, false}, {[]string{"\uffff", "\xff", "\U0001f600"}, false}, {[]string{"9", "10"}, false},
		{[]string{long[:255]}, true}, {[]string{long[:254], long[:255]}, true}, {[]string{long}, false}, {[]string{"", long}, false}, {[]string{long, "y"}, false}, {[]string{"a", "b", long + long}, false},
		{numbered(mostStrings), true}, {numbered(mostStrings + 1), false}, {append(numbered(mostStrings), "y"), false}, {append(numbered(mostStrings-1), "y"), true}, {append(numbered(mostStrings-1), "x"), false}, {make([]string, mostStrings+1), false},
	} {
		if ok := dictionary.Valid(c.d); ok != c.ok {
			t.Errorf("Valid of %d strings %q: %t", len(c.d), some(c.d), ok)
		}
		checkList(t, c.d)
	}
}

func TestListsFollowTheModel(t *testing.T) {
	eachDictionary(func(d []string) { checkList(t, d) })
	eachList(func(l []string) { checkList(t, l) })
}

func TestCodes(t *testing.T) {
	d := []string{"", "ab", "abc", "b"}
	long := strings.Repeat("x", 256)
	for _, c := range []struct {
		d, l  []string
		codes []int
		e     api.Errno
	}{
		{d, nil, nil, api.OK}, {nil, nil, nil, api.OK}, {d, d, []int{0, 1, 2, 3}, api.OK}, {d, []string{"b", "b", "", "abc", "ab", ""}, []int{3, 3, 0, 2, 1, 0}, api.OK}, {[]string{long[:255]}, []string{long[:255]}, []int{0}, api.OK},
		// Strings that are not there, the first of them the last one too.
		{nil, []string{""}, nil, api.ErrNone}, {d, []string{"a"}, nil, api.ErrNone}, {d, []string{"b", "", "bb"}, nil, api.ErrNone}, {d, []string{"B", "b"}, nil, api.ErrNone}, {d, []string{"\x00"}, nil, api.ErrNone}, {d, []string{"abcd"}, nil, api.ErrNone}, {d, []string{"c", "d"}, nil, api.ErrNone}, {[]string{long[:255]}, []string{long}, nil, api.ErrNone}, {[]string{"a"}, []string{""}, nil, api.ErrNone},
		// No dictionary, which comes first.
		{[]string{"b", "a"}, nil, nil, api.ErrArg}, {[]string{"b", "a"}, []string{"a"}, nil, api.ErrArg}, {[]string{"b", "a"}, []string{"c"}, nil, api.ErrArg}, {[]string{"a", "a"}, []string{"a", "b"}, nil, api.ErrArg}, {[]string{long}, []string{long}, nil, api.ErrArg}, {[]string{long}, []string{""}, nil, api.ErrArg}, {numbered(mostStrings + 1), []string{"?"}, nil, api.ErrArg},
	} {
		codes, e := dictionary.Codes(c.d, c.l)
		if !slices.Equal(codes, c.codes) || e != c.e {
			t.Errorf("Codes(%q, %q): %v, %d instead of %v, %d", some(c.d), c.l, codes, e, c.codes, c.e)
		}
		checkCodes(t, c.d, c.l)
	}
}

func TestStrings(t *testing.T) {
	d := []string{"", "ab", "abc", "b"}
	for _, c := range []struct {
		d     []string
		codes []int
		l     []string
		e     api.Errno
	}{
		{d, nil, nil, api.OK}, {nil, nil, nil, api.OK}, {d, []int{0, 1, 2, 3}, d, api.OK}, {d, []int{3, 3, 0, 2, 1, 0}, []string{"b", "b", "", "abc", "ab", ""}, api.OK}, {numbered(mostStrings), []int{mostStrings - 1}, numbered(mostStrings)[mostStrings-1:], api.OK},
		{d, []int{4}, nil, api.ErrArg}, {d, []int{-1}, nil, api.ErrArg}, {d, []int{0, 4}, nil, api.ErrArg}, {d, []int{-1, 0}, nil, api.ErrArg}, {d, []int{least}, nil, api.ErrArg}, {d, []int{greatest}, nil, api.ErrArg}, {nil, []int{0}, nil, api.ErrArg}, {numbered(mostStrings), []int{mostStrings}, nil, api.ErrArg},
		{[]string{"b", "a"}, nil, nil, api.ErrArg}, {[]string{"b", "a"}, []int{0}, nil, api.ErrArg}, {[]string{"a", "a"}, []int{1}, nil, api.ErrArg}, {[]string{strings.Repeat("x", 256)}, []int{0}, nil, api.ErrArg}, {numbered(mostStrings + 1), []int{0}, nil, api.ErrArg},
	} {
		l, e := dictionary.Strings(c.d, c.codes)
		if !slices.Equal(l, c.l) || e != c.e {
			t.Errorf("Strings(%q, %v): %q, %d instead of %q, %d", some(c.d), c.codes, l, e, c.l, c.e)
		}
		checkStrings(t, c.d, c.codes)
	}
}

func TestCodesAndStringsFollowTheModel(t *testing.T) {
	r := newRand()
	check := func(d []string) {
		if len(d) > 400 && r.IntN(20) > 0 {
			return
		}
		checkCodes(t, d, someStrings(r, r.IntN(3), 3))
		var l []string
		var codes []int
		for range r.IntN(20) {
			if len(d) > 0 {
				l = append(l, d[r.IntN(len(d))])
				codes = append(codes, r.IntN(len(d)))
			}
		}
		checkCodes(t, d, l)
		checkStrings(t, d, codes)
		checkCodes(t, d, append(l, someString(r, r.IntN(3))))
		checkStrings(t, d, append(codes, r.IntN(len(d)+4)-2))
	}
	eachDictionary(check)
	eachList(check)
}

// A list of any length has codes.
func TestLongListsOfCodes(t *testing.T) {
	r := newRand()
	d := numbered(mostStrings)
	var l []string
	var codes []int
	for range 100000 {
		code := r.IntN(mostStrings)
		codes = append(codes, code)
		l = append(l, d[code])
	}
	if got, e := dictionary.Codes(d, l); !slices.Equal(got, codes) || e != api.OK {
		t.Errorf("Codes of %d strings: %v, %d", len(l), some(got), e)
	}
	if got, e := dictionary.Strings(d, codes); !slices.Equal(got, l) || e != api.OK {
		t.Errorf("Strings of %d codes: %d strings, %d", len(codes), len(got), e)
	}
}

func TestPack(t *testing.T) {
	long := strings.Repeat("x", 255)
	for _, c := range []struct {
		d []string
		b []byte
	}{
		{nil, []byte{0}}, {[]string{""}, []byte{1, 0, 0}}, {[]string{"", "a", "aa"}, []byte{3, 0, 0, 0, 1, 97, 1, 1, 97}}, {[]string{"abc", "abd", "ac", "b"}, []byte{4, 0, 3, 97, 98, 99, 2, 1, 100, 1, 1, 99, 0, 1, 98}},
		{[]string{"\xc3\xa4", "\xc3\xb6"}, []byte{2, 0, 2, 195, 164, 1, 1, 182}}, {[]string{"\x00", "\x00\x00"}, []byte{2, 0, 1, 0, 1, 1, 0}}, {[]string{"a", "abab"}, []byte{2, 0, 1, 97, 1, 3, 98, 97, 98}},
		{[]string{long[:127]}, append([]byte{1, 0, 127}, long[:127]...)}, {[]string{long[:128]}, append([]byte{1, 0, 128, 1}, long[:128]...)}, {[]string{long}, append([]byte{1, 0, 255, 1}, long...)},
		{[]string{long[:127], long[:128]}, slices.Concat([]byte{2, 0, 127}, []byte(long[:127]), []byte{127, 1, 120})}, {[]string{long[:128], long[:129]}, slices.Concat([]byte{2, 0, 128, 1}, []byte(long[:128]), []byte{128, 1, 1, 120})}, {[]string{long[:254], long}, slices.Concat([]byte{2, 0, 254, 1}, []byte(long[:254]), []byte{254, 1, 1, 120})},
	} {
		if b, e := dictionary.Pack(c.d); !bytes.Equal(b, c.b) || e != api.OK {
			t.Errorf("Pack(%q): %v, %d instead of %v", c.d, some(b), e, some(c.b))
		}
		if d, rest, e := dictionary.Unpack(c.b); !slices.Equal(d, c.d) || len(rest) != 0 || e != api.OK {
			t.Errorf("Unpack(%v): %q, %v, %d instead of %q", some(c.b), d, rest, e, c.d)
		}
	}
	if b, _ := dictionary.Pack(numbered(mostStrings)); !bytes.Equal(b[:5], []byte{128, 32, 0, 255, 1}) {
		t.Errorf("Pack of %d strings begins with %v", mostStrings, b[:5])
	}
}

func TestUnpack(t *testing.T) {
	long := strings.Repeat("x", 255)
	high := bytes.Repeat([]byte{255}, 10)
	most := bitpack.Varint(nil, math.MaxUint64)
	behind := func(b []byte, more ...byte) []byte { return slices.Concat(b, more) }
	one := func(more ...byte) []byte { return slices.Concat([]byte{2, 0, 1, 97}, more) }
	two := slices.Concat([]byte{2}, rawPart(0, 255, long))
	for _, c := range []struct {
		b    []byte
		d    []string
		rest []byte
		e    api.Errno
	}{
		{nil, nil, nil, api.ErrShort}, {[]byte{}, nil, nil, api.ErrShort},
		{[]byte{0}, nil, nil, api.OK}, {[]byte{0, 0, 255}, nil, []byte{0, 255}, api.OK}, {[]byte{1, 0, 0}, []string{""}, nil, api.OK}, {[]byte{1, 0, 0, 0}, []string{""}, []byte{0}, api.OK}, {[]byte{1, 0, 1, 97, 128, 0}, []string{"a"}, []byte{128, 0}, api.OK}, {one(1, 1, 0), []string{"a", "a\x00"}, nil, api.OK}, {one(0, 1, 98, 98), []string{"a", "b"}, []byte{98}, api.OK}, {[]byte{2, 0, 0, 0, 1, 0}, []string{"", "\x00"}, nil, api.OK},
		// The number of strings.
		{[]byte{128}, nil, nil, api.ErrShort}, {[]byte{128, 0}, nil, nil, api.ErrForm}, {[]byte{129, 0, 0, 0}, nil, nil, api.ErrForm}, {high, nil, nil, api.ErrForm}, {high[:9], nil, nil, api.ErrShort}, {[]byte{128, 32}, nil, nil, api.ErrShort}, {[]byte{129, 32}, nil, nil, api.ErrForm}, {[]byte{129, 32, 0, 0}, nil, nil, api.ErrForm}, {most, nil, nil, api.ErrForm}, {bitpack.Varint(nil, 1<<63), nil, nil, api.ErrForm}, {behind(bitpack.Varint(nil, 1<<32+1), 0, 0), nil, nil, api.ErrForm},
		// The number of bytes that are shared.
		{[]byte{1}, nil, nil, api.ErrShort}, {[]byte{1, 128}, nil, nil, api.ErrShort}, {[]byte{1, 128, 0}, nil, nil, api.ErrForm}, {behind([]byte{1}, high...), nil, nil, api.ErrForm}, {one(), nil, nil, api.ErrShort}, {one(128, 0, 1, 98), nil, nil, api.ErrForm},
		// The number of other bytes, before what both numbers come to.
		{[]byte{1, 0}, nil, nil, api.ErrShort}, {[]byte{1, 0, 129}, nil, nil, api.ErrShort}, {[]byte{1, 0, 129, 0, 97}, nil, nil, api.ErrForm}, {[]byte{1, 1}, nil, nil, api.ErrShort}, {one(2), nil, nil, api.ErrShort}, {one(2, 128), nil, nil, api.ErrShort}, {one(255, 1), nil, nil, api.ErrShort}, {one(0, 129, 0), nil, nil, api.ErrForm},
		// More bytes are shared than the one before has, before there are too few.
		{[]byte{1, 1, 0}, nil, nil, api.ErrForm}, {[]byte{1, 1, 1}, nil, nil, api.ErrForm}, {[]byte{1, 9, 2}, nil, nil, api.ErrForm}, {one(2, 0), nil, nil, api.ErrForm}, {one(2, 1, 97), nil, nil, api.ErrForm}, {one(2, 9), nil, nil, api.ErrForm}, {[]byte{2, 0, 0, 1, 1, 97}, nil, nil, api.ErrForm}, {behind([]byte{1}, behind(most, 0)...), nil, nil, api.ErrForm}, {behind([]byte{1}, behind(most, 1, 97)...), nil, nil, api.ErrForm}, {one(behind(most, 2, 97, 97)...), nil, nil, api.ErrForm}, {one(behind(bitpack.Varint(nil, 1<<63), 1, 98)...), nil, nil, api.ErrForm},
		// More than 255 bytes, before there are too few.
		{behind([]byte{1}, rawPart(0, 255, long)...), []string{long}, nil, api.OK}, {behind([]byte{1}, rawPart(0, 256, long+"x")...), nil, nil, api.ErrForm}, {[]byte{1, 0, 128, 2}, nil, nil, api.ErrForm}, {[]byte{1, 0, 255, 1}, nil, nil, api.ErrShort}, {behind([]byte{1, 0}, most...), nil, nil, api.ErrForm}, {one(behind([]byte{1}, most...)...), nil, nil, api.ErrForm}, {one(rawPart(1, 255, long)...), nil, nil, api.ErrForm}, {one(rawPart(1, 254, long[1:])...), []string{"a", "a" + long[1:]}, nil, api.OK}, {one(rawPart(1, 254, long[2:])...), nil, nil, api.ErrShort}, {one(rawPart(1, 255, "")...), nil, nil, api.ErrForm},
		{behind(two, rawPart(255, 1, "x")...), nil, nil, api.ErrForm}, {behind(two, rawPart(255, 0, "")...), nil, nil, api.ErrForm}, {behind(two, rawPart(256, 0, "")...), nil, nil, api.ErrForm}, {behind(two, rawPart(254, 1, "y")...), []string{long, long[:254] + "y"}, nil, api.OK}, {behind(two, rawPart(254, 1, "")...), nil, nil, api.ErrShort}, {behind(two, rawPart(254, 2, "")...), nil, nil, api.ErrForm},
		// Too few bytes, before the string is not greater.
		{[]byte{1, 0, 1}, nil, nil, api.ErrShort}, {[]byte{1, 0, 3, 97, 98}, nil, nil, api.ErrShort}, {one(0, 2, 96), nil, nil, api.ErrShort}, {one(0, 1), nil, nil, api.ErrShort}, {one(0, 2, 97), nil, nil, api.ErrShort},
		// Not greater.
		{one(1, 0), nil, nil, api.ErrForm}, {one(0, 0), nil, nil, api.ErrForm}, {one(0, 1, 96), nil, nil, api.ErrForm}, {one(0, 1, 0), nil, nil, api.ErrForm}, {[]byte{2, 0, 0, 0, 0}, nil, nil, api.ErrForm}, {[]byte{2, 0, 2, 97, 98, 1, 0}, nil, nil, api.ErrForm}, {[]byte{2, 0, 2, 97, 98, 1, 1, 97}, nil, nil, api.ErrForm}, {[]byte{2, 0, 2, 97, 98, 1, 2, 97, 99}, nil, nil, api.ErrForm}, {[]byte{2, 0, 1, 128, 0, 1, 127}, nil, nil, api.ErrForm}, {[]byte{2, 0, 1, 127, 0, 1, 128}, []string{"\x7f", "\x80"}, nil, api.OK},
		// More is shared than it says.
		{one(0, 1, 97), nil, nil, api.ErrForm}, {one(0, 2, 97, 98), nil, nil, api.ErrForm}, {[]byte{2, 0, 2, 97, 98, 1, 1, 98}, nil, nil, api.ErrForm}, {[]byte{2, 0, 2, 97, 98, 1, 2, 98, 99}, nil, nil, api.ErrForm}, {[]byte{2, 0, 2, 97, 98, 0, 2, 97, 99}, nil, nil, api.ErrForm}, {[]byte{2, 0, 2, 97, 98, 1, 1, 99}, []string{"ab", "ac"}, nil, api.OK},
		// A string that cannot follow, before what comes behind it.
		{[]byte{3, 0, 1, 97, 1, 0}, nil, nil, api.ErrForm}, {[]byte{3, 0, 1, 97, 1, 0, 128}, nil, nil, api.ErrForm}, {[]byte{3, 0, 1, 97, 0, 1, 98}, nil, nil, api.ErrShort}, {[]byte{3, 0, 1, 97, 0, 1, 98, 2, 0}, nil, nil, api.ErrForm},
	} {
		d, rest, e := dictionary.Unpack(c.b)
		if !slices.Equal(d, c.d) || !bytes.Equal(rest, c.rest) || e != c.e {
			t.Errorf("Unpack(%v): %q, %v, %d instead of %q, %v, %d", some(c.b), d, some(rest), e, c.d, c.rest, c.e)
		}
		checkUnpack(t, c.b)
	}
}

// As many strings as can be, and one more.
func TestUnpackOfManyStrings(t *testing.T) {
	most := modelForm(numbered(mostStrings))
	if d, rest, e := dictionary.Unpack(append(most, 7)); !slices.Equal(d, numbered(mostStrings)) || !bytes.Equal(rest, []byte{7}) || e != api.OK {
		t.Errorf("Unpack of %d strings: %d strings, %v, %d", mostStrings, len(d), rest, e)
	}
	if d, rest, e := dictionary.Unpack(modelForm(numbered(mostStrings + 1))); d != nil || rest != nil || e != api.ErrForm {
		t.Errorf("Unpack of %d strings: %d strings, %v, %d", mostStrings+1, len(d), some(rest), e)
	}
}

func TestUnpackOfShortSequences(t *testing.T) {
	check := func(b []byte) { checkUnpack(t, b) }
	var all []byte
	for x := range 256 {
		all = append(all, byte(x))
	}
	eachLonger(nil, all, 2, check)
	eachLonger([]byte{1, 0}, all, 2, check)
	eachLonger([]byte{2, 0, 1, 97}, all, 2, check)
	eachLonger(nil, []byte{0, 1, 2, 3, 97, 98, 128, 255}, 6, check)
	eachLonger([]byte{2, 0, 2, 1, 2}, []byte{0, 1, 2, 3, 4, 128, 255}, 5, check)
	eachLonger([]byte{3, 0, 1, 1}, []byte{0, 1, 2, 3}, 7, check)
}

// Any strings in any order, with more or less of them said to be shared.
func TestUnpackOfOtherParts(t *testing.T) {
	r := newRand()
	accepted := 0
	for range 40000 {
		l := someStrings(r, 1+r.IntN(5), 6)
		if r.IntN(2) == 0 {
			l = modelOf(l)
		}
		b := varint(len(l))
		for i, s := range l {
			shared := 0
			if i > 0 {
				shared = modelShared(l[i-1], s)
			}
			if r.IntN(8) == 0 {
				shared = r.IntN(len(s) + 2)
			}
			n := max(0, len(s)-shared)
			if r.IntN(20) == 0 {
				n += r.IntN(3) - 1
			}
			b = append(b, rawPart(shared, max(0, n), s[min(len(s), shared):])...)
		}
		checkUnpack(t, b)
		if _, _, e := dictionary.Unpack(b); e == api.OK {
			accepted++
		}
	}
	if accepted < 5000 {
		t.Errorf("only %d forms were accepted", accepted)
	}
}

func TestUnpackOfChangedForms(t *testing.T) {
	r := newRand()
	change := func(b []byte, i int) {
		checkUnpack(t, b[:i])
		flipped := slices.Clone(b)
		flipped[i] ^= 1 << r.IntN(8)
		checkUnpack(t, flipped)
		flipped[i] = byte(r.IntN(256))
		checkUnpack(t, flipped)
		checkUnpack(t, slices.Delete(slices.Clone(b), i, i+1))
		checkUnpack(t, slices.Insert(slices.Clone(b), i, byte(r.IntN(256))))
	}
	eachDictionary(func(d []string) {
		if len(d) > 300 {
			return
		}
		b := append(modelForm(d), byte(r.IntN(256)))
		checkUnpack(t, b)
		for i := range min(len(b), 10) {
			change(b, i)
		}
		change(b, r.IntN(len(b)))
		change(b, max(0, len(b)-2))
	})
}

// P1: any bytes.
func TestUnpackOfAnyBytes(t *testing.T) {
	r := newRand()
	for range 40000 {
		b := make([]byte, r.IntN(30))
		for i := range b {
			b[i] = byte(r.Uint64() >> r.IntN(64))
		}
		checkUnpack(t, b)
	}
	for _, n := range []byte{0, 1, 2, 255} {
		for _, x := range []byte{0, 1, 127, 128, 255} {
			checkUnpack(t, append([]byte{n}, bytes.Repeat([]byte{x}, 1<<20)...))
		}
	}
}

// E5: what a call must not change is what its arguments refer to, the room behind them included.
func TestArgumentsStay(t *testing.T) {
	check := func(l []string) {
		if len(l) > 500 {
			return
		}
		room := slices.Concat(l, []string{"~", "~", "~"})
		before := slices.Clone(room)
		l = room[:len(l)]
		d := dictionary.Of(l)
		spoil(d, "?")
		dictionary.Valid(l)
		b, _ := dictionary.Pack(l)
		spoil(b, 77)
		codes, e := dictionary.Codes(l, l)
		if e == api.OK {
			checkCodesStay(t, l, codes)
		}
		spoil(codes, 77)
		if !slices.Equal(room, before) {
			t.Errorf("a function changed %q to %q", before, room)
		}
	}
	eachDictionary(check)
	eachList(check)
}

// checkCodesStay takes the strings of codes, and spoils them.
func checkCodesStay(t *testing.T, d []string, codes []int) {
	t.Helper()
	room := slices.Concat(codes, []int{77, 77, 77})
	before := slices.Clone(room)
	l, _ := dictionary.Strings(d, room[:len(codes)])
	spoil(l, "?")
	if !slices.Equal(room, before) {
		t.Errorf("Strings changed %v to %v", before, room)
	}
}

// spoil changes a result, and writes behind it if there is room.
func spoil[T any](l []T, x T) {
	for i := range l {
		l[i] = x
	}
	_ = append(l, x)
}

// E5: neither what is unpacked nor what is put behind the rest writes to the bytes; and the strings stay when the bytes change.
func TestUnpackedBytesStay(t *testing.T) {
	eachDictionary(func(d []string) {
		b := slices.Concat(modelForm(d), []byte{1, 2, 3}, bytes.Repeat([]byte{77}, 20))
		before := slices.Clone(b)
		got, rest, e := dictionary.Unpack(b[:len(b)-20])
		if e != api.OK || !bytes.Equal(rest, []byte{1, 2, 3}) {
			t.Fatalf("Unpack of the packed %q: %v, %d", some(d), rest, e)
		}
		_ = append(rest, 5)
		if !bytes.Equal(b, before) {
			t.Errorf("Unpack changed %v to %v", some(before), some(b))
		}
		spoil(b, 0)
		if !slices.Equal(got, d) {
			t.Errorf("the unpacked %q changes with the bytes", some(d))
		}
	})
}

// The results of a call depend on no call before it.
func TestNothingIsKept(t *testing.T) {
	d, other := []string{"a", "b"}, []string{"b", "c"}
	form, _ := dictionary.Pack(d)
	for range 3 {
		dictionary.Pack(other)
		if codes, e := dictionary.Codes(other, []string{"b"}); !slices.Equal(codes, []int{0}) || e != api.OK {
			t.Errorf("Codes(%q): %v, %d", other, codes, e)
		}
		if codes, e := dictionary.Codes(d, []string{"b"}); !slices.Equal(codes, []int{1}) || e != api.OK {
			t.Errorf("Codes(%q): %v, %d", d, codes, e)
		}
		if _, e := dictionary.Codes(d, []string{"c"}); e != api.ErrNone {
			t.Errorf("Codes(%q) of a string of another dictionary: %d", d, e)
		}
		if got, rest, e := dictionary.Unpack(form); !slices.Equal(got, d) || len(rest) != 0 || e != api.OK {
			t.Errorf("Unpack(%v): %q, %v, %d", form, got, rest, e)
		}
	}
}

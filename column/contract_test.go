package column_test

import (
	"bytes"
	"slices"
	"strings"
	"testing"

	"chapman/api"
	"chapman/bitpack"
	"chapman/column"
)

// These tests are for P7.1 (contract), for G5 and for P1 of the document.

// short returns the first elements of a list, for a message.
func short[T any](l []T) []T { return l[:min(len(l), 40)] }

func checkEncode(t *testing.T, typ api.Type, l []api.Value) {
	t.Helper()
	if fits, want := column.Fits(typ, l), modelFits(typ, l); fits != want {
		t.Errorf("Fits(%v, %v): %t", typ, short(l), fits)
	}
	b, e := column.Encode(typ, l)
	if want, wantE := modelEncode(typ, l); !bytes.Equal(b, want) || e != wantE || e != api.OK && b != nil {
		t.Errorf("Encode(%v) of %d values %v: %v, %d instead of %v, %d", typ, len(l), short(l), short(b), e, short(want), wantE)
	}
}

func checkKinds(t *testing.T, l []api.Value) {
	t.Helper()
	if kind, want := column.Kind(l), modelKind(l); kind != want {
		t.Errorf("Kind of %d values %v: %d", len(l), short(l), kind)
	}
	if e, want := column.Exponent(l), modelExponent(l); e != want {
		t.Errorf("Exponent of %d values %v: %d instead of %d", len(l), short(l), e, want)
	}
}

func checkDecode(t *testing.T, typ api.Type, b []byte) {
	t.Helper()
	l, rest, e := column.Decode(typ, b)
	want, used, wantE := modelDecode(typ, b)
	var behind []byte
	if wantE == api.OK {
		behind = b[used:]
	}
	if !slices.Equal(l, want) || !bytes.Equal(rest, behind) || e != wantE || e != api.OK && (l != nil || rest != nil) {
		t.Errorf("Decode(%v, %v): %v, %v, %d instead of %v, %v, %d", typ, short(b), short(l), short(rest), e, short(want), short(behind), wantE)
	}
}

func TestExamples(t *testing.T) {
	for _, c := range []struct {
		l []api.Value
		b []byte
	}{{list(num(1000000), num(2000000), num(3000000)), []byte{6, 2, 3, 2, 0}}, {nil, []byte{6, 0, 0}}} {
		for scale := range 7 {
			if b, e := column.Encode(nums(scale), c.l); !bytes.Equal(b, c.b) || e != api.OK {
				t.Errorf("Encode of %v: %v, %d", c.l, b, e)
			}
			if l, rest, e := column.Decode(nums(scale), c.b); !slices.Equal(l, c.l) || len(rest) != 0 || e != api.OK {
				t.Errorf("Decode(%v): %v, %v, %d", c.b, l, rest, e)
			}
		}
	}
}

// eachType calls f with valid types, and with others.
func eachType(f func(typ api.Type)) {
	for _, k := range []int{least, -1, 0, 1, 2, 3, 4, 5, 256, 257, 258, 259, greatest} {
		for _, scale := range []int{least, -7, -1, 0, 1, 2, 3, 4, 5, 6, 7, 8, 256, 262, greatest} {
			f(api.Type{K: k, Scale: scale})
			f(api.Type{K: k, Scale: scale, Null: true})
		}
	}
}

func TestFits(t *testing.T) {
	for _, c := range []struct {
		typ api.Type
		l   []api.Value
		ok  bool
	}{
		{bools(), nil, true}, {nums(0), nil, true}, {strs(), nil, true}, {api.Type{}, nil, false}, {api.Type{Null: true}, nil, false}, {api.Type{Null: true}, list(null()), false}, {api.Type{K: 4}, nil, false}, {api.Type{K: 3, Scale: 1}, nil, false}, {api.Type{K: 1, Scale: 6}, list(yes()), false}, {nums(7), list(num(unit)), false}, {nums(-1), list(num(0)), false},
		{bools(), list(yes(), no()), true}, {bools(), list(yes(), null()), false}, {orNull(bools()), list(yes(), null()), true}, {bools(), list(num(1)), false}, {bools(), list(api.Value{K: 1, I: 2}), false}, {bools(), list(no(), no(), str("")), false},
		{strs(), list(str(""), str("~")), true}, {strs(), list(str("a\n")), false}, {strs(), list(str(strings.Repeat("a", 41))), false}, {strs(), list(api.Value{K: 3, I: 1}), false}, {strs(), list(num(0)), false}, {strs(), list(null()), false}, {orNull(strs()), list(null()), true}, {orNull(strs()), list(api.Value{I: 1}), false},
		{nums(0), list(num(unit), num(-unit)), true}, {nums(0), list(num(unit / 10)), false}, {nums(1), list(num(unit / 10)), true}, {nums(6), list(num(1)), true}, {nums(5), list(num(1)), false}, {nums(6), list(yes()), false}, {nums(6), list(str("")), false}, {nums(6), list(null()), false}, {orNull(nums(6)), list(null(), num(3)), true}, {nums(6), list(api.Value{K: 2, S: "0"}), false},
		// Wide numbers.
		{nums(0), list(num(mostSum), num(-mostSum)), true}, {nums(6), list(num(mostSum + 1)), false}, {nums(6), list(num(-mostSum - 1)), false}, {nums(0), list(num(mostSum - unit)), true}, {nums(0), list(num(mostSum - unit/10)), false}, {nums(6), list(num(mostSum - 1)), true}, {nums(5), list(num(mostSum - 1)), false}, {nums(6), list(num(least)), false}, {nums(6), list(api.Value{K: 2, I: mostSum, S: "a"}), false}, {bools(), list(num(mostSum)), false}, {strs(), list(num(mostSum)), false},
		// One value that does not fit, wherever it is.
		{nums(0), append(many(5000, num(0)), num(1)), false}, {nums(0), append(list(num(1)), many(5000, num(0))...), false}, {nums(0), many(5000, num(0)), true},
	} {
		if ok := column.Fits(c.typ, c.l); ok != c.ok {
			t.Errorf("Fits(%v, %v): %t", c.typ, short(c.l), ok)
		}
		checkEncode(t, c.typ, c.l)
	}
}

func TestFitsFollowsTheModel(t *testing.T) {
	edges := edgeValues()
	eachType(func(typ api.Type) {
		for _, l := range [][]api.Value{nil, {null()}, {yes()}, {num(0)}, {num(unit)}, {str("a")}} {
			checkEncode(t, typ, l)
		}
	})
	for _, typ := range validTypes() {
		for _, v := range edges {
			checkEncode(t, typ, list(v))
		}
	}
}

func TestEncode(t *testing.T) {
	five := append([]byte{1, 1, 0, 9}, "some text"...)
	for _, c := range []struct {
		typ api.Type
		l   []api.Value
		b   []byte
	}{
		{bools(), nil, []byte{0, 0}}, {bools(), list(yes()), []byte{0, 1, 2, 0}}, {bools(), list(yes(), yes(), no()), []byte{0, 3, 0, 1, 3}},
		{orNull(bools()), nil, []byte{0, 0, 0, 0}}, {orNull(bools()), list(null()), []byte{0, 1, 2, 0, 0, 0}}, {orNull(bools()), list(no(), null(), yes()), []byte{0, 3, 0, 1, 2, 0, 2, 0, 1, 2}},
		{nums(0), list(num(0)), []byte{6, 0, 1, 0, 0}}, {nums(2), list(num(-50000)), []byte{4, 0, 1, 9, 0}}, {nums(6), list(num(-50000)), []byte{4, 0, 1, 9, 0}}, {nums(6), list(num(100), num(20)), []byte{1, 0, 2, 4, 4, 8}}, {nums(6), list(num(1)), []byte{0, 0, 1, 2, 0}}, {nums(0), list(num(10000000)), []byte{6, 0, 1, 20, 0}}, {nums(6), list(num(0), num(10)), []byte{1, 0, 2, 0, 1, 2}},
		{orNull(nums(6)), list(null(), num(7)), []byte{0, 2, 0, 1, 1, 0, 0, 1, 14, 0}}, {orNull(nums(0)), list(null(), null()), []byte{0, 2, 2, 0, 6, 0, 0}}, {orNull(nums(0)), nil, []byte{0, 0, 6, 0, 0}},
		{nums(0), list(num(mostSum)), append([]byte{6, 0, 1}, append(bitpack.Varint(nil, 8000000000000), 0)...)},
		{strs(), nil, []byte{0, 0, 0}}, {strs(), list(str("")), []byte{0, 0, 1, 0, 0}}, {strs(), list(str("ab")), []byte{0, 0, 1, 4, 0, 97, 98}}, {strs(), list(str("ab"), str(""), str("c")), []byte{0, 0, 3, 0, 2, 18, 97, 98, 99}}, {strs(), many(5, str("some text")), slices.Concat(five, []byte{0, 5, 0, 0})},
		{orNull(strs()), list(str("x"), null()), []byte{0, 2, 0, 1, 2, 0, 0, 1, 2, 0, 120}}, {orNull(strs()), list(null()), []byte{0, 1, 2, 0, 0, 0, 0}},
	} {
		if b, e := column.Encode(c.typ, c.l); !bytes.Equal(b, c.b) || e != api.OK {
			t.Errorf("Encode(%v, %v): %v, %d instead of %v", c.typ, c.l, b, e, c.b)
		}
		if l, rest, e := column.Decode(c.typ, c.b); !slices.Equal(l, c.l) || len(rest) != 0 || e != api.OK {
			t.Errorf("Decode(%v, %v): %v, %v, %d instead of %v", c.typ, c.b, l, rest, e, c.l)
		}
	}
}

func TestErrorsOfEncode(t *testing.T) {
	for _, c := range []struct {
		typ api.Type
		l   []api.Value
		e   api.Errno
	}{
		{nums(0), many(mostList, num(0)), api.OK}, {nums(0), many(mostList+1, num(0)), api.ErrBig}, {bools(), many(mostList+1, yes()), api.ErrBig}, {strs(), many(mostList+1, str("a")), api.ErrBig}, {strs(), numbered(mostList + 1), api.ErrBig}, {orNull(strs()), many(mostList, null()), api.OK}, {orNull(strs()), many(mostList+1, null()), api.ErrBig}, {orNull(nums(6)), append(many(mostList, null()), num(1)), api.ErrBig},
		// A type that is not valid, or values that do not fit, before too many values.
		{nums(7), many(mostList+1, num(0)), api.ErrType}, {api.Type{}, many(mostList+1, null()), api.ErrType}, {nums(0), append(many(mostList, num(0)), num(1)), api.ErrType}, {strs(), many(mostList+1, null()), api.ErrType}, {nums(6), many(2, null()), api.ErrType},
	} {
		if b, e := column.Encode(c.typ, c.l); e != c.e || e != api.OK && b != nil {
			t.Errorf("Encode(%v) of %d values: %v, %d instead of %d", c.typ, len(c.l), short(b), e, c.e)
		}
		checkEncode(t, c.typ, c.l)
	}
}

func TestEncodeFollowsTheModel(t *testing.T) {
	eachList(func(typ api.Type, l []api.Value) {
		checkEncode(t, typ, l)
		checkKinds(t, l)
		checkDecode(t, typ, chunk(typ, l))
	})
	r := newRand()
	for range 3000 {
		typ := validTypes()[r.IntN(len(validTypes()))]
		l := someList(r, typ, 1+r.IntN(8))
		checkEncode(t, typ, l)
		l[r.IntN(len(l))] = someValue(r, validTypes()[r.IntN(len(validTypes()))], mostText+2)
		checkEncode(t, typ, l)
	}
}

func TestKind(t *testing.T) {
	same := many(5, str("some text"))
	long := strings.Repeat("a", 40)
	for _, c := range []struct {
		l    []api.Value
		kind int
	}{
		{nil, 0}, {same[:1], 0}, {same, 1}, {list(num(1)), 0}, {many(9, null()), 0}, {many(9, str("")), 0}, {many(9, str(long)), 1}, {many(9, str(long+"a")), 0}, {append(many(9, str(long)), str(long+"a")), 0}, {append(list(str(long+"a")), many(9, str(long))...), 0},
		// As many bytes are not fewer: both forms of twice the same text of three bytes have 10, and those of four times the same of one byte have 8.
		{many(2, str("abc")), 0}, {many(2, str("abcd")), 1}, {many(4, str("ab")), 1}, {many(5, str("a")), 1}, {many(4, str("a")), 0},
		// Values of other kinds do not count, but values that are no texts otherwise do.
		{mixed(same, many(5000, num(1))), 1}, {mixed(same, many(5000, null())), 1}, {mixed(same, many(9, api.Value{K: 4, S: long + "a"})), 1}, {mixed(same, many(9, api.Value{K: 2, S: long + "a"})), 1}, {many(5, api.Value{K: 3, I: 7, S: "some text"}), 1}, {many(5, str("some\ntext")), 1}, {many(9, str("\xff\x00\x80\x7f")), 1}, {many(9, api.Value{K: 4, S: "some text"}), 0}, {many(9, api.Value{K: 0, S: "some text"}), 0},
		{many(mostList, str("some text")), 1}, {many(mostList+1, str("some text")), 0}, {append(many(mostList, str("some text")), null()), 1}, {append(many(mostList, str("some text")), str("")), 0}, {numbered(mostList), 1}, {numbered(mostList + 1), 0},
	} {
		if kind := column.Kind(c.l); kind != c.kind {
			t.Errorf("Kind of %d values %v: %d", len(c.l), short(c.l), kind)
		}
		checkKinds(t, c.l)
	}
}

func TestExponent(t *testing.T) {
	for _, c := range []struct {
		l []api.Value
		e int
	}{
		{nil, 6}, {list(num(0)), 6}, {list(null(), yes(), str("1")), 6}, {list(num(1)), 0}, {list(num(-1)), 0}, {list(num(10)), 1}, {list(num(-100)), 2}, {list(num(7000)), 3}, {list(num(40000)), 4}, {list(num(-500000)), 5}, {list(num(unit)), 6}, {list(num(100 * unit)), 6}, {list(num(mostSum)), 6},
		{list(num(100), str("1"), num(-30)), 1}, {list(num(-30), num(100)), 1}, {list(num(100), num(0)), 2}, {list(num(unit), num(7), num(unit)), 0}, {list(num(20), num(50)), 1}, {list(num(4), num(5)), 0}, {list(num(64), num(15625)), 0},
		// Numbers of any size, and values that are no numbers otherwise.
		{list(num(least)), 0}, {list(num(greatest)), 0}, {list(num(least / unit * unit)), 6}, {list(num(greatest / 1000 * 1000)), 3}, {list(api.Value{K: 2, I: 10, S: "a"}), 1}, {list(api.Value{K: 3, I: 1}, api.Value{K: 4, I: 1}, api.Value{I: 1}, api.Value{K: 1, I: 3}, num(unit)), 6},
		{append(many(20000, num(unit)), num(10)), 1}, {append(list(num(10)), many(20000, num(unit))...), 1},
	} {
		if e := column.Exponent(c.l); e != c.e {
			t.Errorf("Exponent of %v: %d instead of %d", short(c.l), e, c.e)
		}
		checkKinds(t, c.l)
	}
}

func TestKindsFollowTheModel(t *testing.T) {
	eachBag(func(l []api.Value) { checkKinds(t, l) })
	r := newRand()
	for range 10 {
		l := someList(r, strs(), mostList-2)
		for range 4 {
			checkKinds(t, l)
			l = append(l, l[0])
		}
	}
}

func TestErrorsOfDecode(t *testing.T) {
	word := strings.Repeat("a", 41)
	join := func(bs ...[]byte) []byte { return slices.Concat(bs...) }
	form := func(kind byte, bs ...[]byte) []byte { return join([]byte{kind}, join(bs...)) }
	refused := []byte{2, 1, 2, 0} // the differences of 1 alone, which need no fewer bytes than the list
	for _, c := range []struct {
		typ api.Type
		b   []byte
		e   api.Errno
	}{
		// The type, before anything else.
		{api.Type{}, nil, api.ErrType}, {api.Type{K: 4}, []byte{6, 0, 0}, api.ErrType}, {nums(7), []byte{6, 0, 0}, api.ErrType}, {api.Type{K: 3, Scale: 1}, []byte{9}, api.ErrType}, {api.Type{K: 1, Scale: 1, Null: true}, nil, api.ErrType},
		{bools(), nil, api.ErrShort}, {nums(0), nil, api.ErrShort}, {strs(), nil, api.ErrShort}, {orNull(nums(0)), nil, api.ErrShort},
		// The exponent and the kind.
		{nums(0), []byte{6}, api.ErrShort}, {nums(0), []byte{7}, api.ErrForm}, {nums(0), []byte{7, 0, 0}, api.ErrForm}, {nums(0), []byte{255, 0, 0}, api.ErrForm}, {nums(0), []byte{5, 0, 0}, api.ErrForm}, {nums(0), []byte{0, 0, 0}, api.ErrForm}, {strs(), []byte{0}, api.ErrShort}, {strs(), []byte{1}, api.ErrShort}, {strs(), []byte{2}, api.ErrForm}, {strs(), []byte{2, 0, 0}, api.ErrForm}, {strs(), []byte{255}, api.ErrForm}, {orNull(strs()), []byte{0, 0}, api.ErrShort}, {orNull(strs()), []byte{0, 0, 2}, api.ErrForm}, {orNull(nums(0)), []byte{0, 0}, api.ErrShort}, {orNull(nums(0)), []byte{0, 0, 7}, api.ErrForm}, {orNull(bools()), []byte{0, 0}, api.ErrShort},
		// Coded lists.
		{bools(), []byte{4}, api.ErrForm}, {bools(), []byte{0}, api.ErrShort}, {bools(), refused, api.ErrForm}, {orNull(bools()), []byte{4}, api.ErrForm}, {orNull(bools()), join(refused, coded()), api.ErrForm}, {orNull(bools()), refused, api.ErrForm}, {orNull(bools()), join(coded(0), refused), api.ErrForm}, {orNull(nums(0)), []byte{0, 1, 2}, api.ErrShort}, {nums(0), form(6, refused), api.ErrForm}, {nums(0), []byte{6, 0, 1}, api.ErrShort}, {nums(6), form(0, []byte{4}), api.ErrForm}, {strs(), form(0, refused), api.ErrForm}, {strs(), form(0, []byte{5}), api.ErrForm}, {strs(), form(0, []byte{0, 128}), api.ErrShort}, {bools(), []byte{0, 129, 32}, api.ErrForm},
		// Nulls that are no nulls, too many and too few values, and what is read behind them before that.
		{orNull(nums(0)), join(coded(2), form(6, coded(1))), api.ErrForm}, {orNull(nums(0)), join(coded(2), form(6, coded())), api.ErrForm}, {orNull(nums(0)), join(coded(-1), form(6, coded(1))), api.ErrForm}, {orNull(nums(0)), join(coded(1), form(6, coded(1))), api.ErrForm}, {orNull(nums(0)), join(coded(0), form(6, coded())), api.ErrForm}, {orNull(nums(0)), join(coded(), form(6, coded(1))), api.ErrForm}, {orNull(nums(0)), join(coded(0, 0), form(6, coded(1))), api.ErrForm}, {orNull(nums(0)), join(coded(0), form(6, coded(1, 1))), api.ErrForm}, {orNull(nums(0)), join(coded(0), form(6, coded(1))), api.OK}, {orNull(bools()), join(coded(0, 1), coded(1)), api.OK}, {orNull(bools()), join(coded(0, 1), coded(1, 1)), api.ErrForm}, {orNull(bools()), join(coded(0, 2), coded(1)), api.ErrForm}, {orNull(strs()), join(coded(0, 1), form(0, coded(0, 0))), api.ErrForm}, {orNull(strs()), join(coded(0, 1, 0), form(0, coded(1), []byte("a"))), api.ErrForm},
		{orNull(nums(0)), join(coded(2), []byte{6}), api.ErrShort}, {orNull(nums(0)), coded(2), api.ErrShort}, {orNull(nums(0)), join(coded(1), form(6, []byte{0, 1})), api.ErrShort}, {orNull(strs()), join(coded(2), form(0, coded(1))), api.ErrShort}, {orNull(strs()), join(coded(1), form(1, []byte{1})), api.ErrShort}, {orNull(bools()), join(coded(5), []byte{0}), api.ErrShort},
		// Bools and numbers that are none, or do not fit.
		{bools(), coded(2), api.ErrForm}, {bools(), coded(1, -1), api.ErrForm}, {bools(), coded(256), api.ErrForm}, {nums(0), form(5, coded(1)), api.ErrForm}, {nums(1), form(5, coded(1)), api.OK}, {nums(6), form(5, coded(10)), api.ErrForm}, {nums(6), form(0, coded(10)), api.ErrForm}, {nums(6), form(0, coded(10, 1)), api.OK}, {nums(5), form(0, coded(10, 1)), api.ErrForm}, {nums(6), form(0, coded(0)), api.ErrForm}, {nums(6), form(6, coded(0)), api.OK}, {nums(6), form(3, coded()), api.ErrForm}, {nums(6), form(0, coded(mostSum+1)), api.ErrForm}, {nums(6), form(0, coded(mostSum-1)), api.OK}, {nums(6), form(0, coded(1-mostSum)), api.OK}, {nums(6), form(0, coded(-mostSum-1)), api.ErrForm}, {nums(0), form(6, coded(mostSum/unit)), api.OK}, {nums(0), form(6, coded(mostSum/unit+1)), api.ErrForm}, {nums(0), form(6, coded(-mostSum/unit-1)), api.ErrForm},
		// Products beyond the 64-bit integers, which are 0, 10^6 and -10^6 modulo 2^64.
		{nums(0), form(6, coded(1<<58)), api.ErrForm}, {nums(0), form(6, coded(1<<58+1)), api.ErrForm}, {nums(0), form(6, coded(-1<<58-1)), api.ErrForm}, {nums(0), form(6, coded(1, 1<<58+1)), api.ErrForm}, {nums(0), form(6, coded(least)), api.ErrForm}, {nums(6), form(1, coded(1<<63-1)), api.ErrForm}, {nums(6), form(1, coded(least, 1)), api.ErrForm}, {nums(6), form(3, coded(1<<61+1)), api.ErrForm},
		// Lengths, all of them, before bytes that are missing, and these before those that no text has.
		{strs(), form(0, coded(-1)), api.ErrForm}, {strs(), form(0, coded(41)), api.ErrForm}, {strs(), form(0, coded(41), []byte(word)), api.ErrForm}, {strs(), form(0, coded(40)), api.ErrShort}, {strs(), form(0, coded(40), []byte(word[:39])), api.ErrShort}, {strs(), form(0, coded(40), []byte(word[:40])), api.OK}, {strs(), form(0, coded(5, 41)), api.ErrForm}, {strs(), form(0, coded(5, -1)), api.ErrForm}, {strs(), form(0, coded(-1, 5)), api.ErrForm}, {strs(), form(0, coded(least)), api.ErrForm}, {strs(), form(0, coded(greatest, 1)), api.ErrForm}, {strs(), form(0, coded(greatest, greatest, 2)), api.ErrForm}, {strs(), form(0, coded(2, 1), []byte("ab")), api.ErrShort}, {strs(), form(0, coded(2, 1), []byte("\n\n")), api.ErrShort}, {strs(), form(0, coded(2, 1), []byte("ab\n")), api.ErrForm}, {strs(), form(0, coded(1), []byte{31}), api.ErrForm}, {strs(), form(0, coded(1), []byte{127}), api.ErrForm}, {strs(), form(0, coded(1), []byte{126}), api.OK}, {strs(), form(0, coded(many(mostList, 40)...)), api.ErrShort},
		// Another form, with fewer bytes.
		{strs(), form(0, coded(9, 9, 9), []byte("some textsome textsome text")), api.ErrForm}, {strs(), form(1, packed("a"), coded(0)), api.ErrForm}, {strs(), form(1, packed(), coded()), api.ErrForm}, {strs(), form(1, packed("abc"), coded(0, 0)), api.ErrForm}, {strs(), form(1, packed("abcd"), coded(0, 0)), api.OK}, {strs(), form(0, coded(3, 3), []byte("abcabc")), api.OK}, {strs(), form(0, coded(4, 4), []byte("abcdabcd")), api.ErrForm},
		// Dictionaries.
		{strs(), form(1, []byte{1, 0}), api.ErrShort}, {strs(), form(1, []byte{1, 1, 0}), api.ErrForm}, {strs(), form(1, []byte{2, 0, 1, 98, 0, 1, 97}), api.ErrForm}, {strs(), form(1, []byte{129, 32}), api.ErrForm}, {strs(), form(1, packed("abcde")), api.ErrShort}, {strs(), form(1, packed("abcde"), []byte{7}), api.ErrForm}, {strs(), form(1, packed("abcde"), []byte{0, 2, 0}), api.ErrShort}, {strs(), form(1, packed("abcde"), coded(0, 1)), api.ErrForm}, {strs(), form(1, packed("abcde"), coded(0, -1)), api.ErrForm}, {strs(), form(1, packed("abcde"), coded(many(20, 1)...)), api.ErrForm}, {strs(), form(1, packed(), coded(0)), api.ErrForm}, {strs(), form(1, packed("abcde", "b"), coded(many(9, 0)...)), api.ErrForm}, {strs(), form(1, packed("abcde", "b"), coded(append(many(8, 0), 1)...)), api.OK}, {strs(), form(1, packed("a", "abcde"), coded(many(9, 1)...)), api.ErrForm},
		{strs(), form(1, packed(word), coded(many(9, 0)...)), api.ErrForm}, {strs(), form(1, packed(word[1:]), coded(many(9, 0)...)), api.OK}, {strs(), form(1, packed("some\ntext"), coded(many(9, 0)...)), api.ErrForm}, {strs(), form(1, packed("some\xfftext"), coded(many(9, 0)...)), api.ErrForm}, {strs(), form(1, packed(word, "\xff"), []byte{0}), api.ErrShort},
	} {
		if l, rest, e := column.Decode(c.typ, c.b); e != c.e || e != api.OK && (l != nil || rest != nil) {
			t.Errorf("Decode(%v, %v): %v, %v, %d instead of %d", c.typ, short(c.b), short(l), short(rest), e, c.e)
		}
		checkDecode(t, c.typ, c.b)
	}
}

func TestDecodeOfInvalidTypes(t *testing.T) {
	eachType(func(typ api.Type) {
		for _, b := range [][]byte{nil, {0}, {0, 0}, {6, 0, 0}, {0, 0, 0}, {0, 0, 0, 0}, {0, 0, 6, 0, 0}, {255}} {
			checkDecode(t, typ, b)
		}
	})
}

func TestDecodeOfShortSequences(t *testing.T) {
	for _, typ := range someTypes() {
		check := func(b []byte) { checkDecode(t, typ, b) }
		eachLonger(nil, []byte{0, 1, 2, 3, 4, 6, 97}, 5, check)
		eachLonger([]byte{0, 1}, []byte{0, 1, 2, 6, 97}, 6, check)
		eachLonger([]byte{1, 1, 0, 5, 97, 98, 99, 100, 101}, []byte{0, 1, 2, 3, 4}, 5, check)
		eachLonger([]byte{0, 2, 0, 1, 2}, []byte{0, 1, 2, 6, 97}, 6, check)
	}
}

// changes calls f with a chunk that was changed, cut short or made longer at one place.
func changes(r interface{ IntN(int) int }, b []byte, f func(b []byte)) {
	i := r.IntN(len(b))
	f(b[:i])
	f(append(slices.Clone(b), byte(r.IntN(256))))
	f(slices.Delete(slices.Clone(b), i, i+1))
	f(slices.Insert(slices.Clone(b), i, byte(r.IntN(256))))
	flipped := slices.Clone(b)
	flipped[i] ^= 1 << r.IntN(8)
	f(flipped)
}

func TestDecodeOfChangedChunks(t *testing.T) {
	r := newRand()
	eachShortList(func(typ api.Type, l []api.Value) {
		changes(r, chunk(typ, l), func(b []byte) { checkDecode(t, typ, b) })
	})
}

// Parts that agree with one another, but not with the type, or not as the parts of a chunk do.
func TestDecodeOfParts(t *testing.T) {
	r := newRand()
	for range 20000 {
		typ, other := someTypes()[r.IntN(9)], someTypes()[r.IntN(9)]
		l, m := someList(r, typ, r.IntN(6)), someList(r, typ, r.IntN(6))
		checkDecode(t, typ, slices.Concat(nullPart(typ, l), valuePart(typ, m)))
		checkDecode(t, other, chunk(typ, l))
		texts := stringsOf(someList(r, strs(), r.IntN(8)))
		form := modelForms(texts)
		checkDecode(t, strs(), append([]byte{0}, form[0]...))
		checkDecode(t, strs(), append([]byte{1}, form[1]...))
		checkDecode(t, nums(r.IntN(7)), append([]byte{byte(r.IntN(8))}, valuePart(nums(6), someList(r, nums(6), r.IntN(4)))[1:]...))
	}
}

// P1: any bytes.
func TestDecodeOfAnyBytes(t *testing.T) {
	r := newRand()
	for range 20000 {
		b := make([]byte, r.IntN(30))
		for i := range b {
			b[i] = byte(r.Uint64() >> r.IntN(64))
		}
		checkDecode(t, someTypes()[r.IntN(9)], b)
	}
	for _, typ := range someTypes() {
		for x := range 256 {
			checkDecode(t, typ, bytes.Repeat([]byte{byte(x)}, 100000))
			checkDecode(t, typ, append([]byte{0, 1, 2, 0}, bytes.Repeat([]byte{byte(x)}, 100)...))
		}
	}
}

// P1: values that fit no type do not stop Kind and Exponent.
func TestKindsOfLargeLists(t *testing.T) {
	huge := str(strings.Repeat("a", 1<<20))
	for _, l := range [][]api.Value{many(100000, huge), many(100000, num(least)), many(100000, api.Value{K: least, I: least, S: "a"})} {
		checkKinds(t, l)
		checkEncode(t, strs(), l)
	}
}

// G5: what a call must not change is what its arguments refer to, the room behind them included.
func TestArgumentsStay(t *testing.T) {
	eachShortList(func(typ api.Type, l []api.Value) {
		room := append(slices.Clone(l), yes(), str("~"))
		before := slices.Clone(room)
		first, _ := column.Encode(typ, room[:len(l)])
		second, _ := column.Encode(typ, room[:len(l)])
		column.Fits(typ, room[:len(l)])
		column.Kind(room[:len(l)])
		column.Exponent(room[:len(l)])
		if !slices.Equal(room, before) {
			t.Errorf("encoding changed %v to %v", short(before), short(room))
		}
		for i := range second {
			second[i]++
		}
		if want := chunk(typ, l); !bytes.Equal(first, want) {
			t.Errorf("two chunks share memory: %v instead of %v", short(first), short(want))
		}
		b := slices.Concat(first, bytes.Repeat([]byte{77}, 20))
		form := slices.Clone(b)
		for _, more := range []int{0, 3} {
			got, rest, _ := column.Decode(typ, b[:len(first)+more])
			_ = append(rest, 5)
			_ = append(got, null())
			if !bytes.Equal(b, form) {
				t.Errorf("decoding changed %v to %v", short(form), short(b))
			}
		}
	})
}

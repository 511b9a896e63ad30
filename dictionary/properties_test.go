package dictionary_test

import (
	"bytes"
	"cmp"
	"slices"
	"strings"
	"testing"

	"chapman/api"
	"chapman/dictionary"
)

// packed returns the packed form of a dictionary.
func packed(t *testing.T, d []string) []byte {
	t.Helper()
	b, e := dictionary.Pack(d)
	if e != api.OK {
		t.Fatalf("Pack of %d strings %q: %d", len(d), some(d), e)
	}
	return b
}

// P5.2: the dictionary comes back, and so does what follows.
func TestDictionariesComeBack(t *testing.T) {
	r := newRand()
	eachDictionary(func(d []string) {
		b := packed(t, d)
		for _, rest := range [][]byte{nil, {0}, {1}, {255}, {128, 128}, b[:min(len(b), 20)], {byte(r.IntN(256)), byte(r.IntN(256))}} {
			got, behind, e := dictionary.Unpack(slices.Concat(b, rest))
			if !slices.Equal(got, d) || !bytes.Equal(behind, rest) || e != api.OK {
				t.Fatalf("Unpack of the packed %q, with %v behind: %q, %v, %d", some(d), rest, some(got), some(behind), e)
			}
		}
	})
}

// P5.2: several dictionaries behind one another come back in order.
func TestDictionariesBehindOneAnother(t *testing.T) {
	r := newRand()
	for range 500 {
		var ds [][]string
		var b []byte
		for range r.IntN(6) {
			d := modelOf(someStrings(r, r.IntN(10), 10))
			ds = append(ds, d)
			b = append(b, packed(t, d)...)
		}
		for i, d := range ds {
			got, rest, e := dictionary.Unpack(b)
			if !slices.Equal(got, d) || e != api.OK {
				t.Fatalf("dictionary %d of %q: %q, %d", i, ds, got, e)
			}
			b = rest
		}
		if len(b) != 0 {
			t.Fatalf("%v behind the last one of %q", b, ds)
		}
	}
}

// P5.3: what is accepted is the packed form of the dictionary that is returned, and the rest.
func TestAcceptedBytesAreCanonical(t *testing.T) {
	accepted := 0
	check := func(b []byte) {
		d, rest, e := dictionary.Unpack(b)
		if e != api.OK {
			return
		}
		accepted++
		if !dictionary.Valid(d) {
			t.Fatalf("Unpack(%v): %q, which is no dictionary", some(b), some(d))
		}
		if again := packed(t, d); !bytes.Equal(slices.Concat(again, rest), b) {
			t.Errorf("Unpack(%v): %q, whose packed form is %v, and %v", some(b), some(d), some(again), some(rest))
		}
	}
	eachLonger([]byte{1}, []byte{0, 1, 2, 97, 128}, 6, check)
	eachLonger([]byte{2, 0, 2, 1, 2}, []byte{0, 1, 2, 3, 4, 128}, 6, check)
	eachLonger([]byte{3, 0, 1, 1}, []byte{0, 1, 2, 3}, 8, check)
	eachLonger([]byte{3, 0, 0, 0, 1, 1}, []byte{0, 1, 2, 3}, 8, check)
	r := newRand()
	eachDictionary(func(d []string) {
		if len(d) > 300 {
			return
		}
		b := append(modelForm(d), 3)
		check(b)
		for range 10 {
			changed := slices.Clone(b)
			changed[r.IntN(len(b))] ^= 1 << r.IntN(8)
			check(changed)
		}
	})
	if accepted < 20000 {
		t.Errorf("only %d sequences were accepted", accepted)
	}
}

// P5.3: of all ways to say how many bytes are shared, the one with the most of them alone is accepted.
func TestLessSharedIsRefused(t *testing.T) {
	pairs := [][2]string{{"abc", "abd"}, {"abc", "abcd"}, {"\x00", "\x00\x00"}, {"\xff", "\xff\xff"}, {strings.Repeat("x", 254), strings.Repeat("x", 255)}}
	for _, p := range pairs {
		before, s := p[0], p[1]
		most := modelShared(before, s)
		for shared := range most + 1 {
			b := slices.Concat([]byte{2}, rawPart(0, len(before), before), rawPart(shared, len(s)-shared, s[shared:]))
			d, rest, e := dictionary.Unpack(b)
			if shared < most && (d != nil || rest != nil || e != api.ErrForm) {
				t.Errorf("Unpack of %q, with %d shared bytes: %q, %v, %d", p, shared, d, rest, e)
			}
			if shared == most && (!slices.Equal(d, p[:]) || len(rest) != 0 || e != api.OK) {
				t.Errorf("Unpack of %q, with %d shared bytes: %q, %v, %d", p, shared, d, rest, e)
			}
		}
	}
}

// P5.3: no two dictionaries have the same packed form.
func TestFormsOfDifferentDictionariesDiffer(t *testing.T) {
	forms := map[string][]string{}
	eachSubset([]string{"", "\x00", "\x00\x01", "\x01", "\x01\x00", "\x01\x01", "\x01\x01\x61", "a", "a\x00", "a\x01", "aa", "ab"}, func(d []string) {
		b := string(packed(t, d))
		if other, ok := forms[b]; ok {
			t.Errorf("%q and %q have the same packed form", d, other)
		}
		forms[b] = d
	})
}

// P5.4: each of the two inverts the other one.
func TestStringsAndCodes(t *testing.T) {
	r := newRand()
	eachDictionary(func(d []string) {
		if len(d) == 0 {
			return
		}
		var l []string
		var codes []int
		for range 50 {
			l = append(l, d[r.IntN(len(d))])
			codes = append(codes, r.IntN(len(d)))
		}
		for _, l := range [][]string{nil, l, d} {
			codes, e := dictionary.Codes(d, l)
			if e != api.OK {
				t.Fatalf("Codes(%q, %q): %d", some(d), some(l), e)
			}
			if got, e := dictionary.Strings(d, codes); !slices.Equal(got, l) || e != api.OK {
				t.Errorf("Strings of the codes of %q in %q: %q, %d", some(l), some(d), some(got), e)
			}
		}
		l, e := dictionary.Strings(d, codes)
		if e != api.OK {
			t.Fatalf("Strings(%q, %v): %d", some(d), codes, e)
		}
		if got, e := dictionary.Codes(d, l); !slices.Equal(got, codes) || e != api.OK {
			t.Errorf("Codes of the strings with the codes %v in %q: %v, %d", codes, some(d), got, e)
		}
	})
}

// P5.4: codes are compared as the strings are, and different strings have different codes.
func TestCodesFollowTheStrings(t *testing.T) {
	eachDictionary(func(d []string) {
		if len(d) > 300 {
			return
		}
		l := slices.Concat(d, d)
		codes, e := dictionary.Codes(d, l)
		if len(codes) != len(l) || e != api.OK {
			t.Fatalf("Codes(%q): %d codes, %d", d, len(codes), e)
		}
		for i, s := range l {
			for j, other := range l {
				if cmp.Compare(codes[i], codes[j]) != compare(s, other) {
					t.Fatalf("the codes of %q and %q in %q are %d and %d", s, other, d, codes[i], codes[j])
				}
			}
		}
	})
}

// eachBag calls f with lists of strings, repeated ones among them.
func eachBag(f func(l []string)) {
	eachLonger(nil, []string{"", "a", "ab", "b", "\xff"}, 4, f)
	r := newRand()
	for range 500 {
		f(someStrings(r, r.IntN(30), 6))
		f(someStrings(r, r.IntN(10), 300))
	}
	f(someStrings(r, 3000, 8))
	f(slices.Concat(numbered(mostStrings+2), numbered(9)))
}

// P5.5: the order of the strings and how often they occur make no difference.
func TestOrderAndRepetitions(t *testing.T) {
	r := newRand()
	eachBag(func(l []string) {
		want := dictionary.Of(l)
		other := slices.Clone(l)
		for range r.IntN(5) {
			if len(l) > 0 {
				other = append(other, l[r.IntN(len(l))])
			}
		}
		for range 3 {
			r.Shuffle(len(other), func(i, j int) { other[i], other[j] = other[j], other[i] })
			if d := dictionary.Of(other); !slices.Equal(d, want) {
				t.Errorf("Of(%q): %q, but Of(%q): %q", some(other), some(d), some(l), some(want))
			}
		}
		if d := dictionary.Of(slices.Concat(l, l)); !slices.Equal(d, want) {
			t.Errorf("Of twice %q: %q instead of %q", some(l), some(d), some(want))
		}
		if d := dictionary.Of(want); !slices.Equal(d, want) {
			t.Errorf("Of(%q): %q", some(want), some(d))
		}
	})
}

// P5.5: it has exactly the strings of the list, each one once, in order; it is a dictionary if it is not too large.
func TestOfHasTheStrings(t *testing.T) {
	eachBag(func(l []string) {
		d := dictionary.Of(l)
		in, out := map[string]bool{}, map[string]bool{}
		large := false
		for _, s := range l {
			in[s] = true
			large = large || len(s) > mostBytes
		}
		for i, s := range d {
			if out[s] || !in[s] {
				t.Errorf("Of(%q) has %q", some(l), s)
			}
			if i > 0 && compare(d[i-1], s) >= 0 {
				t.Errorf("Of(%q): %q is behind %q", some(l), s, d[i-1])
			}
			out[s] = true
		}
		if len(out) != len(in) {
			t.Errorf("Of(%q): %d strings instead of %d", some(l), len(out), len(in))
		}
		if valid := !large && len(in) <= mostStrings; dictionary.Valid(d) != valid {
			t.Errorf("Valid of the dictionary of %q: %t", some(l), !valid)
		}
	})
}

// P5.5: the dictionary of two lists is that of both dictionaries.
func TestDictionaryOfTwoLists(t *testing.T) {
	check := func(l, m []string) {
		want := dictionary.Of(slices.Concat(l, m))
		if d := dictionary.Of(slices.Concat(dictionary.Of(l), dictionary.Of(m))); !slices.Equal(d, want) {
			t.Errorf("Of the dictionaries of %q and %q: %q instead of %q", some(l), some(m), some(d), some(want))
		}
		if d := dictionary.Of(slices.Concat(m, l)); !slices.Equal(d, want) {
			t.Errorf("Of %q and %q: %q instead of %q", some(m), some(l), some(d), some(want))
		}
	}
	eachLonger(nil, []string{"", "a", "b"}, 3, func(l []string) {
		eachLonger(nil, []string{"a", "aa", "b"}, 3, func(m []string) { check(l, m) })
	})
	r := newRand()
	for range 1000 {
		l := someStrings(r, r.IntN(20), 5)
		check(l, someStrings(r, r.IntN(20), 5))
		check(l, l[:r.IntN(len(l)+1)])
	}
	check(numbered(4000), numbered(5000)[2000:])
}

// P5.6: every proper beginning is ErrShort.
func TestBeginnings(t *testing.T) {
	eachDictionary(func(d []string) {
		b := packed(t, d)
		step := 1 + len(b)/200
		for n := 0; n < len(b); n += step {
			checkBeginning(t, d, b[:n])
		}
		for n := max(0, len(b)-20); n < len(b); n++ {
			checkBeginning(t, d, b[:n])
		}
	})
}

func checkBeginning(t *testing.T, d []string, b []byte) {
	t.Helper()
	if got, rest, e := dictionary.Unpack(b); got != nil || rest != nil || e != api.ErrShort {
		t.Errorf("Unpack of %d bytes of the packed %q: %q, %v, %d", len(b), some(d), some(got), some(rest), e)
	}
}

package value_test

import (
	"bytes"
	"slices"
	"strings"
	"testing"

	"chapman/api"
	"chapman/value"
)

// checkOrder holds what a total order has against all of these elements.
func checkOrder[T any](t *testing.T, l []T, compare func(a, b T) int, equal func(a, b T) bool) {
	t.Helper()
	for _, a := range l {
		for _, b := range l {
			c := compare(a, b)
			if c != -compare(b, a) || c < -1 || c > 1 || (c == 0) != equal(a, b) {
				t.Fatalf("%v and %v compare as %d and %d", a, b, c, compare(b, a))
			}
			for _, d := range l {
				if c <= 0 && compare(b, d) <= 0 && compare(a, d) > 0 {
					t.Fatalf("%v, %v and %v are not transitive", a, b, d)
				}
			}
		}
	}
}

func same[T comparable](a, b T) bool { return a == b }

// P6.2: the order of values is total, also of those that are not valid, and equal ones alone compare equal.
func TestOrderOfValues(t *testing.T) {
	edges := edgeValues()
	r := newRand()
	var few, wide []api.Value
	for range 120 {
		few = append(few, edges[r.IntN(len(edges))])
		wide = append(wide, someWide(r), str(someText(r, 2)))
	}
	few = append(few, few[:10]...)
	for _, l := range [][]api.Value{few, wide, edges[:100], edges[len(edges)-200:], {null(), no(), yes(), num(-1), num(0), num(1), str(""), str("a"), str("ab"), str("b")}} {
		checkOrder(t, l, value.Cmp, same[api.Value])
	}
	for _, v := range edges {
		if value.Cmp(v, v) != 0 {
			t.Errorf("Cmp of %v with itself: %d", v, value.Cmp(v, v))
		}
	}
}

// P6.2: so is that of lists, in which a beginning is less than the whole.
func TestOrderOfLists(t *testing.T) {
	var few, many [][]api.Value
	eachLonger(nil, []api.Value{null(), num(-1), num(1), str("a")}, 3, func(l []api.Value) { few = append(few, l) })
	r := newRand()
	for range 100 {
		l := someList(r, 5)
		many = append(many, l, l[:r.IntN(len(l)+1)])
	}
	for _, ls := range [][][]api.Value{few, many} {
		checkOrder(t, ls, value.CmpList, slices.Equal[[]api.Value])
	}
	eachList(func(l []api.Value) {
		for _, n := range []int{0, len(l) / 2, len(l) - 1} {
			if n >= 0 && n < len(l) && value.CmpList(l[:n], l) != -1 {
				t.Errorf("the first %d of %v are not less than all", n, short(l))
			}
		}
	})
}

// P6.2: a list of one value is as that value.
func TestListsOfOneValue(t *testing.T) {
	edges := edgeValues()
	for i, a := range edges {
		for _, b := range edges[i%11:] {
			if got := value.CmpList([]api.Value{a}, []api.Value{b}); got != value.Cmp(a, b) {
				t.Fatalf("%v and %v compare as %d, and in lists as %d", a, b, value.Cmp(a, b), got)
			}
		}
	}
}

// P6.3: a value that a type has is valid; a type with more places, or with null, has all values, and more of them.
func TestTypesHaveTheirValues(t *testing.T) {
	check := func(v api.Value) {
		eachType(func(typ api.Type) {
			if !value.Has(typ, v) {
				return
			}
			if !value.Valid(v) || !value.ValidType(typ) {
				t.Errorf("%v has %v: %t, %t", typ, v, value.ValidType(typ), value.Valid(v))
			}
			wider := typ
			for wider.Null = true; value.ValidType(wider); wider.Scale++ {
				if !value.Has(wider, v) {
					t.Errorf("%v has %v, but %v does not", typ, v, wider)
				}
			}
		})
	}
	for _, v := range edgeValues() {
		check(v)
	}
	r := newRand()
	for range 2000 {
		check(someWide(r))
	}
}

// P6.3: each valid value is in a type, no other one is in any, and each further place and null bring new ones.
func TestValuesHaveTypes(t *testing.T) {
	check := func(v api.Value) {
		has := slices.ContainsFunc(validTypes(), func(typ api.Type) bool { return value.Has(typ, v) })
		if has != value.Valid(v) {
			t.Errorf("a type has %v: %t, which is valid: %t", v, has, value.Valid(v))
		}
	}
	for _, v := range edgeValues() {
		check(v)
	}
	eachWide(check)
	n := unit
	for scale := range 7 {
		typ := api.Type{K: api.VNum, Scale: scale}
		if !value.Has(typ, num(n)) || scale > 0 && value.Has(api.Type{K: api.VNum, Scale: scale - 1}, num(n)) || value.Has(typ, null()) {
			t.Errorf("%v has %d: %t", typ, n, value.Has(typ, num(n)))
		}
		n /= 10
	}
}

// P6.4: the value comes back if it is valid; a text form is that of one value alone.
func TestTextsComeBack(t *testing.T) {
	values := map[string]api.Value{}
	eachWide(func(v api.Value) {
		s := value.Text(v)
		want, wantE := v, api.OK
		if !modelValid(v) {
			want, wantE = null(), api.ErrForm
		}
		if got, e := value.Parse(s); got != want || e != wantE {
			t.Errorf("Parse of the text %s of %v: %v, %d", s, v, got, e)
		}
		if other, ok := values[s]; ok && other != v || s == "" {
			t.Errorf("%v and %v have the text %q", v, other, s)
		}
		values[s] = v
	})
}

// P6.4: what is accepted is the text form of a valid value.
func TestAcceptedTextsAreTexts(t *testing.T) {
	accepted := 0
	check := func(s string) {
		v, e := value.Parse(s)
		if e != api.OK {
			return
		}
		accepted++
		if !value.Valid(v) || value.Text(v) != s {
			t.Errorf("Parse(%q): %v, whose text is %q", s, v, value.Text(v))
		}
	}
	eachString("", "\"\\an", 7, check)
	eachString("\"", "\"\\ ~", 8, check)
	eachString("", "-.0159", 6, check)
	for _, word := range []string{"null", "true", "false"} {
		for i := range len(word) + 1 {
			for x := range 256 {
				one := string([]byte{byte(x)})
				check(word[:i] + one + word[i:])
				check(word[:i] + one + word[min(i+1, len(word)):])
			}
		}
	}
	for n := 35; n < 45; n++ {
		for _, c := range []string{"a", "\\\"", "\\\\", "\"", "\\", "\x7f"} {
			check("\"" + strings.Repeat(c, n) + "\"")
		}
	}
	if accepted < 10000 {
		t.Errorf("only %d strings were accepted", accepted)
	}
}

// behinds returns bytes that may follow a byte form.
func behinds(b []byte) [][]byte {
	return [][]byte{nil, {0}, {1}, {255}, {128, 128}, {97, 98}, b[:min(len(b), 50)]}
}

// P6.5: the value comes back, and so does what follows.
func TestValuesComeBack(t *testing.T) {
	eachWide(func(v api.Value) {
		b := value.Append(nil, v)
		for _, rest := range behinds(b) {
			got, behind, e := value.Read(slices.Concat(b, rest))
			if got != v || !bytes.Equal(behind, rest) || e != api.OK {
				t.Fatalf("Read of the bytes %v of %v, with %v behind: %v, %v, %d", b, v, rest, got, behind, e)
			}
		}
	})
}

// P6.5: so does a list.
func TestListsComeBack(t *testing.T) {
	eachList(func(l []api.Value) {
		b := value.AppendList(nil, l)
		for _, rest := range behinds(b) {
			got, behind, e := value.ReadList(slices.Concat(b, rest))
			if !slices.Equal(got, l) || !bytes.Equal(behind, rest) || e != api.OK {
				t.Fatalf("ReadList of the bytes of %v, with %v behind: %v, %v, %d", short(l), short(rest), short(got), short(behind), e)
			}
		}
	})
}

// P6.5: values and lists behind one another come back in order.
func TestFormsBehindOneAnother(t *testing.T) {
	r := newRand()
	for range 1000 {
		values, other := someList(r, 8), someList(r, 8)
		var b []byte
		for _, v := range values {
			b = value.AppendList(value.Append(b, v), other)
		}
		for i, v := range values {
			got, rest, e := value.Read(b)
			l, rest, listE := value.ReadList(rest)
			if got != v || e != api.OK || !slices.Equal(l, other) || listE != api.OK {
				t.Fatalf("value %d of %v and the list %v: %v, %d, %v, %d", i, values, other, got, e, l, listE)
			}
			b = rest
		}
		if len(b) != 0 {
			t.Fatalf("%v behind the last one of %v", b, values)
		}
	}
}

// P6.5: what is accepted is the byte form of what is returned, and the rest.
func TestAcceptedBytesAreForms(t *testing.T) {
	accepted, lists := 0, 0
	check := func(b []byte) {
		if v, rest, e := value.Read(b); e == api.OK {
			accepted++
			if again := value.Append(nil, v); !value.Wide(v) || !bytes.Equal(slices.Concat(again, rest), b) {
				t.Errorf("Read(%v): %v, whose bytes are %v, and %v", short(b), v, again, short(rest))
			}
		}
		if l, rest, e := value.ReadList(b); e == api.OK {
			lists++
			if again := value.AppendList(nil, l); !bytes.Equal(slices.Concat(again, rest), b) {
				t.Errorf("ReadList(%v): %v, whose bytes are %v, and %v", short(b), short(l), short(again), short(rest))
			}
		}
	}
	eachLonger(nil, []byte{0, 1, 2, 3, 97, 128}, 6, check)
	eachLonger([]byte{3}, []byte{0, 1, 2, 3, 31, 126}, 6, check)
	r := newRand()
	eachWide(func(v api.Value) { changes(r, append(value.Append(nil, v), 3), check) })
	eachList(func(l []api.Value) {
		if len(l) < 300 {
			changes(r, append(value.AppendList(nil, l), 3), check)
		}
	})
	if accepted < 20000 || lists < 10000 {
		t.Errorf("only %d values and %d lists were accepted", accepted, lists)
	}
}

// P6.6: every proper beginning is ErrShort.
func TestBeginnings(t *testing.T) {
	eachWide(func(v api.Value) {
		b := value.Append(nil, v)
		for n := range b {
			if got, rest, e := value.Read(b[:n]); got != null() || rest != nil || e != api.ErrShort {
				t.Errorf("Read of %d of the bytes %v of %v: %v, %v, %d", n, b, v, got, rest, e)
			}
		}
	})
	eachList(func(l []api.Value) {
		b := value.AppendList(nil, l)
		for n := 0; n < len(b); n += 1 + len(b)/200 {
			for _, n := range []int{n, len(b) - 1 - n} {
				if got, rest, e := value.ReadList(b[:n]); got != nil || rest != nil || e != api.ErrShort {
					t.Errorf("ReadList of %d of the bytes of %v: %v, %v, %d", n, short(l), short(got), short(rest), e)
				}
			}
		}
	})
}

// P6.6: no byte form is a beginning of that of another value.
func TestNoFormBeginsAnother(t *testing.T) {
	forms := map[string]api.Value{}
	longest := 0
	eachWide(func(v api.Value) {
		b := string(value.Append(nil, v))
		if other, ok := forms[b]; ok && other != v {
			t.Errorf("%v and %v have the bytes %q", v, other, b)
		}
		forms[b] = v
		longest = max(longest, len(b))
	})
	for b, v := range forms {
		for n := range b {
			if other, ok := forms[b[:n]]; ok {
				t.Errorf("the bytes of %v begin those of %v", other, v)
			}
		}
	}
	if len(forms) < 5000 || longest != 42 {
		t.Errorf("only %d byte forms of up to %d bytes", len(forms), longest)
	}
}

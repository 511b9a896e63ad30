package column_test

import (
	"bytes"
	"slices"
	"strings"
	"testing"

	"chapman/api"
	"chapman/column"
)

func encoded(t *testing.T, typ api.Type, l []api.Value) []byte {
	t.Helper()
	b, e := column.Encode(typ, l)
	if e != api.OK {
		t.Fatalf("Encode(%v) of %d values %v: %d", typ, len(l), short(l), e)
	}
	return b
}

// P7.2: the list comes back, and so does what follows.
func TestListsComeBack(t *testing.T) {
	eachList(func(typ api.Type, l []api.Value) {
		b := encoded(t, typ, l)
		behinds := [][]byte{nil, {0}, {1}, {6, 0, 0}, {255}, {128, 128}, b[:min(len(b), 50)]}
		if len(l) > 400 {
			behinds = [][]byte{nil, {0, 255}}
		}
		for _, rest := range behinds {
			got, behind, e := column.Decode(typ, slices.Concat(b, rest))
			if !slices.Equal(got, l) || !bytes.Equal(behind, rest) || e != api.OK {
				t.Fatalf("Decode of the chunk of %v for %v, with %v behind: %v, %v, %d", short(l), typ, rest, short(got), short(behind), e)
			}
		}
	})
}

// P7.2: several chunks behind one another come back in order.
func TestChunksBehindOneAnother(t *testing.T) {
	r := newRand()
	for range 500 {
		var types []api.Type
		var ls [][]api.Value
		var b []byte
		for range r.IntN(6) {
			typ := someTypes()[r.IntN(9)]
			l := someList(r, typ, r.IntN(20))
			types, ls, b = append(types, typ), append(ls, l), append(b, encoded(t, typ, l)...)
		}
		for i, l := range ls {
			got, rest, e := column.Decode(types[i], b)
			if !slices.Equal(got, l) || e != api.OK {
				t.Fatalf("list %d of %v: %v, %d", i, ls, got, e)
			}
			b = rest
		}
		if len(b) != 0 {
			t.Fatalf("%v behind the last one of %v", b, ls)
		}
	}
}

// P7.3: what is accepted is the chunk of the list that is returned, and the rest.
func TestAcceptedBytesAreChunks(t *testing.T) {
	accepted := map[api.Type]int{}
	check := func(typ api.Type, b []byte) {
		l, rest, e := column.Decode(typ, b)
		if e != api.OK {
			return
		}
		accepted[typ]++
		if again := encoded(t, typ, l); !column.Fits(typ, l) || !bytes.Equal(slices.Concat(again, rest), b) {
			t.Errorf("Decode(%v, %v): %v, whose chunk is %v, and %v", typ, short(b), short(l), short(again), short(rest))
		}
	}
	r := newRand()
	for _, typ := range someTypes() {
		all := func(b []byte) { check(typ, b) }
		eachLonger(nil, []byte{0, 1, 2, 3, 6}, 7, all)
		eachLonger([]byte{0, 2, 0, 1}, []byte{0, 1, 2, 3, 6, 97}, 5, all)
		eachLonger([]byte{1, 1, 0, 6, 97, 97, 97, 97, 97, 97}, []byte{0, 1, 2, 3, 8}, 6, all)
	}
	eachShortList(func(typ api.Type, l []api.Value) {
		b := append(chunk(typ, l), 3)
		check(typ, b)
		for range 3 {
			changes(r, b, func(b []byte) { check(typ, b) })
		}
	})
	for _, typ := range someTypes() {
		if accepted[typ] < 2000 {
			t.Errorf("only %d sequences were accepted for %v", accepted[typ], typ)
		}
	}
}

// P7.3: no two lists have the same chunk.
func TestChunksOfDifferentListsDiffer(t *testing.T) {
	for _, typ := range someTypes() {
		chunks := map[string][]api.Value{}
		alphabet := map[int][]api.Value{1: {no(), yes(), null()}, 2: {num(0), num(unit), num(-10 * unit), num(100), num(3), num(mostSum), null()}, 3: {str(""), str(" "), str("ab"), str("abc"), str("abababababab"), str("0"), null()}}[typ.K]
		alphabet = slices.DeleteFunc(alphabet, func(v api.Value) bool { return !modelFitsOne(typ, v) })
		eachLonger(nil, alphabet, 4, func(l []api.Value) {
			b := string(encoded(t, typ, l))
			if other, ok := chunks[b]; ok {
				t.Errorf("%v and %v have the same chunk for %v", l, other, typ)
			}
			chunks[b] = slices.Clone(l)
		})
	}
}

// P7.4: every proper beginning is ErrShort.
func TestBeginnings(t *testing.T) {
	eachList(func(typ api.Type, l []api.Value) {
		b := encoded(t, typ, l)
		step := 1
		if len(b) > 200 {
			step = len(b) / 20
		}
		ends := []int{len(b) - 1, len(b) - 2, len(nullPart(typ, l)), len(nullPart(typ, l)) + 1, len(b) - len(strings.Join(stringsOf(l), ""))}
		for n := 0; n < len(b); n += step {
			ends = append(ends, n)
		}
		for _, n := range ends {
			if n < 0 || n >= len(b) {
				continue
			}
			if got, rest, e := column.Decode(typ, b[:n]); got != nil || rest != nil || e != api.ErrShort {
				t.Errorf("Decode of %d of %d bytes of the chunk of %v for %v: %v, %v, %d", n, len(b), short(l), typ, short(got), rest, e)
			}
		}
	})
}

// P7.5: texts need no more bytes than in full, with their coded lengths and a byte.
func TestTextsAreShort(t *testing.T) {
	eachList(func(typ api.Type, l []api.Value) {
		if typ.K != api.VText {
			return
		}
		texts := stringsOf(l)
		most := len(coded(lengthsOf(texts)...)) + len(strings.Join(texts, "")) + 1
		if n := len(encoded(t, typ, l)) - len(nullPart(typ, l)); n > most {
			t.Errorf("the texts %v have %d bytes in the chunk, not at most %d", short(l), n, most)
		}
	})
}

// P7.5: equal values have a chunk of at most 120 bytes.
func TestEqualValuesAreShort(t *testing.T) {
	for _, v := range edgeValues() {
		for _, typ := range someTypes() {
			if !modelFitsOne(typ, v) {
				continue
			}
			for _, n := range []int{0, 1, 2, 3, 64, 128, mostList} {
				if b := encoded(t, typ, many(n, v)); len(b) > 120 {
					t.Errorf("the chunk of %d times %v for %v has %d bytes", n, v, typ, len(b))
				}
			}
		}
	}
}

// P7.6: ten times the numbers have the same chunk, but for an exponent that is greater by 1.
func TestTenTimesTheNumbers(t *testing.T) {
	moved := 0
	eachShortList(func(typ api.Type, l []api.Value) {
		e := column.Exponent(l)
		if typ.K != api.VNum || e == 6 {
			return
		}
		larger := slices.Clone(l)
		for i, v := range larger {
			if v.I > mostSum/10 || v.I < -mostSum/10 {
				return
			}
			larger[i].I *= 10
		}
		moved++
		b, got := encoded(t, typ, l), encoded(t, typ, larger)
		b[len(nullPart(typ, l))]++
		if !bytes.Equal(got, b) || column.Exponent(larger) != e+1 {
			t.Errorf("the chunk of %v for %v is %v, not %v; the exponent of ten times of that is %d, not %d", short(larger), typ, short(got), short(b), column.Exponent(larger), e+1)
		}
	})
	if moved < 1000 {
		t.Errorf("only %d lists of numbers", moved)
	}
}

// P7.6: wherever the nulls are, the coded list of the numbers is the same, and so is its exponent.
func TestNumbersAmongNulls(t *testing.T) {
	r := newRand()
	typ := orNull(nums(6))
	eachShortList(func(other api.Type, l []api.Value) {
		if other != typ {
			return
		}
		numbers := slices.DeleteFunc(slices.Clone(l), func(v api.Value) bool { return v == null() })
		want := encoded(t, nums(6), numbers)
		for range 3 {
			among := slices.Clone(numbers)
			for range r.IntN(4) {
				among = slices.Insert(among, r.IntN(len(among)+1), null())
			}
			b := encoded(t, typ, among)
			if at := len(nullPart(typ, among)); !bytes.Equal(b[:at], coded(nullsOf(among)...)) || !bytes.Equal(b[at:], want) {
				t.Errorf("the chunk of %v is %v, which does not end with %v", short(among), short(b), short(want))
			}
		}
	})
}

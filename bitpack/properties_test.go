package bitpack_test

import (
	"bytes"
	"cmp"
	"math/big"
	"math/bits"
	"slices"
	"testing"

	"chapman/api"
	"chapman/bitpack"
)

// packed returns the packed form of a list of at most 4096 elements.
func packed(t *testing.T, l []int) []byte {
	t.Helper()
	b, e := bitpack.Pack(l)
	if e != api.OK {
		t.Fatalf("Pack of %d elements: %d", len(l), e)
	}
	return b
}

// P3.2: the list comes back, and so does what follows.
func TestListsComeBack(t *testing.T) {
	r := newRand()
	eachList(func(l []int) {
		b := packed(t, l)
		followers := [][]byte{nil, {0}, {255}, {128, 128}, b}
		for range 3 {
			followers = append(followers, []byte{byte(r.IntN(256)), byte(r.IntN(256))})
		}
		for _, rest := range followers {
			got, behind, e := bitpack.Unpack(slices.Concat(b, rest))
			if !slices.Equal(got, l) || !bytes.Equal(behind, rest) || e != api.OK {
				t.Fatalf("Unpack of the packed %v, with %v behind: %v, %v, %d", l, rest, got, behind, e)
			}
		}
	})
}

// P3.2: several lists behind one another come back in order.
func TestListsBehindOneAnother(t *testing.T) {
	r := newRand()
	for range 500 {
		var ls [][]int
		var b []byte
		for range r.IntN(6) {
			l := someList(r, r.IntN(12))
			ls = append(ls, l)
			b = append(b, packed(t, l)...)
		}
		for i, l := range ls {
			got, rest, e := bitpack.Unpack(b)
			if !slices.Equal(got, l) || e != api.OK {
				t.Fatalf("list %d of %v: %v, %d", i, ls, got, e)
			}
			b = rest
		}
		if len(b) != 0 {
			t.Fatalf("%v behind the last one of %v", b, ls)
		}
	}
}

// P3.3: what is accepted is the packed form of the list that is returned, and the rest.
func TestAcceptedBytesAreCanonical(t *testing.T) {
	accepted := 0
	check := func(b []byte) {
		l, rest, e := bitpack.Unpack(b)
		if e != api.OK {
			return
		}
		accepted++
		again := packed(t, l)
		if !bytes.Equal(slices.Concat(again, rest), b) {
			t.Errorf("Unpack(%v): %v, whose packed form is %v, and %v", b, l, again, rest)
		}
		if len(again) != bitpack.Size(l) {
			t.Errorf("Size(%v): %d instead of %d", l, bitpack.Size(l), len(again))
		}
	}
	eachSequence([]byte{0, 1, 2, 3, 4, 6, 9, 128, 255}, 6, check)
	for n := 1; n < 6; n++ {
		for width := range 5 {
			for d := range 1 << 12 {
				check([]byte{byte(n), 6, byte(width), byte(d), byte(d >> 8)})
			}
		}
	}
	r := newRand()
	eachList(func(l []int) {
		if len(l) > 100 {
			return
		}
		b := append(modelPack(l), 3)
		check(b)
		for range 20 {
			changed := slices.Clone(b)
			changed[r.IntN(len(b))] ^= 1 << r.IntN(8)
			check(changed)
		}
	})
	if accepted < 50000 {
		t.Errorf("only %d sequences were accepted", accepted)
	}
}

// P3.3: no two lists have the same packed form.
func TestFormsOfDifferentListsDiffer(t *testing.T) {
	forms := map[string][]int{}
	elements := []int{least, least + 1, -129, -2, -1, 0, 1, 2, 3, 255, greatest - 1, greatest}
	eachLonger(nil, elements, 4, func(l []int) {
		b := string(packed(t, l))
		if other, ok := forms[b]; ok {
			t.Errorf("%v and %v have the same packed form", l, other)
		}
		forms[b] = slices.Clone(l)
	})
}

// P3.4: each code is undone, in both directions.
func TestZigzagIsABijection(t *testing.T) {
	eachNumber(func(n int) {
		if got := bitpack.Unzigzag(bitpack.Zigzag(n)); got != n {
			t.Errorf("Unzigzag of the code of %d: %d", n, got)
		}
	})
	eachCode(func(u uint64) {
		if got := bitpack.Zigzag(bitpack.Unzigzag(u)); got != u {
			t.Errorf("Zigzag of the integer with the code %d: %d", u, got)
		}
	})
	seen := map[uint64]bool{}
	for n := -1000; n < 1000; n++ {
		seen[bitpack.Zigzag(n)] = true
	}
	for u := range uint64(2000) {
		if !seen[u] {
			t.Errorf("no integer from -1000 to 999 has the code %d", u)
		}
	}
}

// P3.4: a lesser size never has a greater code than a greater size.
func TestZigzagFollowsTheSizes(t *testing.T) {
	var l []int
	eachNumber(func(n int) { l = append(l, n) })
	size := func(n int) *big.Int { return new(big.Int).Abs(wide(n)) }
	slices.SortFunc(l, func(a, b int) int {
		// Of the same size, the one with the greater code is first, so that it is held against the next size.
		return cmp.Or(size(a).Cmp(size(b)), cmp.Compare(bitpack.Zigzag(b), bitpack.Zigzag(a)))
	})
	for i, n := range l[1:] {
		m := l[i]
		if size(m).Cmp(size(n)) < 0 && bitpack.Zigzag(m) > bitpack.Zigzag(n) {
			t.Errorf("the code of %d is greater than that of %d", m, n)
		}
	}
	var greatestCode uint64
	for i, n := range l {
		if i > 0 && size(l[i-1]).Cmp(size(n)) < 0 && bitpack.Zigzag(n) < greatestCode {
			t.Errorf("the code of %d is less than that of a lesser size, %d", n, greatestCode)
		}
		greatestCode = max(greatestCode, bitpack.Zigzag(n))
	}
}

// P3.4: a variable-length code has one byte for each 7 digits that have begun, and is read back, whatever follows.
func TestVariableLengthCodes(t *testing.T) {
	r := newRand()
	eachCode(func(u uint64) {
		code := bitpack.Varint(nil, u)
		groups := 1
		for digits := bits.Len64(u); digits > 7; digits -= 7 {
			groups++
		}
		if len(code) != groups {
			t.Errorf("Varint of %d: %d bytes instead of %d", u, len(code), groups)
		}
		for _, rest := range [][]byte{nil, {0}, {1}, {128}, {255, 255}, code, {byte(r.IntN(256)), byte(r.IntN(256))}} {
			got, behind, e := bitpack.Read(slices.Concat(code, rest))
			if got != u || !bytes.Equal(behind, rest) || e != api.OK {
				t.Errorf("Read of the code of %d, with %v behind: %d, %v, %d", u, rest, got, behind, e)
			}
		}
		for n := range code {
			if got, behind, e := bitpack.Read(code[:n]); got != 0 || behind != nil || e != api.ErrShort {
				t.Errorf("Read of %d bytes of the code of %d: %d, %v, %d", n, u, got, behind, e)
			}
		}
	})
}

// P3.4: what is read is the code that Varint writes.
func TestCodesAreCanonical(t *testing.T) {
	check := func(b []byte) {
		u, rest, e := bitpack.Read(b)
		if e == api.OK && !bytes.Equal(append(bitpack.Varint(nil, u), rest...), b) {
			t.Errorf("Read(%v): %d, %v", b, u, rest)
		}
	}
	eachSequence(allBytes(), 2, check)
	for n := range 11 {
		for x := range 256 {
			check(append(bytes.Repeat([]byte{128}, n), byte(x)))
			check(append(bytes.Repeat([]byte{255}, n), byte(x)))
		}
	}
}

// P3.5: every proper beginning is ErrShort.
func TestBeginnings(t *testing.T) {
	eachList(func(l []int) {
		b := packed(t, l)
		step := 1 + len(b)/200
		for n := 0; n < len(b); n += step {
			checkBeginning(t, l, b[:n])
		}
		for n := max(0, len(b)-20); n < len(b); n++ {
			checkBeginning(t, l, b[:n])
		}
	})
}

func checkBeginning(t *testing.T, l []int, b []byte) {
	t.Helper()
	if got, rest, e := bitpack.Unpack(b); got != nil || rest != nil || e != api.ErrShort {
		t.Errorf("Unpack of %d bytes of %d packed elements: %v, %v, %d", len(b), len(l), got, rest, e)
	}
}

// behindBase returns what follows the base in the packed form of a list that is not empty.
func behindBase(t *testing.T, b []byte) []byte {
	t.Helper()
	for range 2 {
		_, rest, e := bitpack.Read(b)
		if e != api.OK {
			t.Fatalf("Read(%v): %d", b, e)
		}
		b = rest
	}
	return b
}

// P3.6: with the same number added to all elements, what is behind the base stays.
func TestTranslation(t *testing.T) {
	r := newRand()
	moved := 0
	eachList(func(l []int) {
		if len(l) == 0 {
			return
		}
		want := packed(t, l)
		base, top := slices.Min(l), slices.Max(l)
		for _, d := range []int{1, -1, 64, -64, 1000, -base, -top, least - base, greatest - top, someNumber(r)} {
			if !new(big.Int).Add(wide(base), wide(d)).IsInt64() || !new(big.Int).Add(wide(top), wide(d)).IsInt64() {
				continue
			}
			other := slices.Clone(l)
			for i := range other {
				other[i] += d
			}
			got := packed(t, other)
			moved++
			if !bytes.Equal(behindBase(t, got), behindBase(t, want)) {
				t.Fatalf("%v and %v, which is %d more, differ behind the base: %v, %v", l, other, d, want, got)
			}
			head := append(bitpack.Varint(nil, uint64(len(l))), bitpack.Varint(nil, bitpack.Zigzag(base+d))...)
			if !bytes.Equal(got, append(head, behindBase(t, want)...)) {
				t.Fatalf("%v, %d more: %v", l, d, got)
			}
		}
	})
	if moved < 10000 {
		t.Errorf("only %d lists were moved", moved)
	}
}

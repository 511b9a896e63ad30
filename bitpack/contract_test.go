package bitpack_test

import (
	"bytes"
	"math"
	"slices"
	"testing"

	"chapman/api"
	"chapman/bitpack"
)

// These tests are for P3.1 (contract), for C5 and for P1 of the document.

func checkRead(t *testing.T, b []byte) {
	t.Helper()
	u, rest, e := bitpack.Read(b)
	want, size, wantE := modelRead(b)
	if u != want || e != wantE || !bytes.Equal(rest, restOf(b, size, wantE)) {
		t.Errorf("Read(%v): %d, %v, %d instead of %d, %d bytes, %d", b, u, rest, e, want, size, wantE)
	}
}

func checkUnpack(t *testing.T, b []byte) {
	t.Helper()
	l, rest, e := bitpack.Unpack(b)
	want, size, wantE := modelUnpack(b)
	if !slices.Equal(l, want) || e != wantE || !bytes.Equal(rest, restOf(b, size, wantE)) {
		t.Errorf("Unpack(%v): %v, %v, %d instead of %v, %d bytes, %d", b[:min(len(b), 99)], l, rest, e, want, size, wantE)
	}
	if e != api.OK && (l != nil || rest != nil) {
		t.Errorf("Unpack(%v): %v, %v with the error %d", b[:min(len(b), 99)], l, rest, e)
	}
}

// restOf returns what is behind the first bytes; with an error it is nothing.
func restOf(b []byte, size int, e api.Errno) []byte {
	if e != api.OK {
		return nil
	}
	return b[size:]
}

func checkPack(t *testing.T, l []int) {
	t.Helper()
	want := modelPack(l)
	if b, e := bitpack.Pack(l); !bytes.Equal(b, want) || e != api.OK {
		t.Errorf("Pack of %d elements %v: %v, %d instead of %v", len(l), l[:min(len(l), 20)], b, e, want)
	}
	if n := bitpack.Size(l); n != len(want) {
		t.Errorf("Size of %d elements %v: %d instead of %d", len(l), l[:min(len(l), 20)], n, len(want))
	}
}

func TestExamples(t *testing.T) {
	for n, u := range map[int]uint64{-1: 1, 1: 2, -64: 127} {
		if got := bitpack.Zigzag(n); got != u {
			t.Errorf("Zigzag(%d): %d instead of %d", n, got, u)
		}
	}
	if b := bitpack.Varint(nil, 300); !bytes.Equal(b, []byte{172, 2}) {
		t.Errorf("Varint of 300: %v", b)
	}
	for _, c := range []struct {
		l []int
		b []byte
	}{
		{[]int{5, 3, 6}, []byte{3, 6, 2, 50}},
		{nil, []byte{0}},
		{[]int{7, 7}, []byte{2, 14, 0}},
	} {
		if b, e := bitpack.Pack(c.l); !bytes.Equal(b, c.b) || e != api.OK {
			t.Errorf("Pack(%v): %v, %d instead of %v", c.l, b, e, c.b)
		}
		if l, rest, e := bitpack.Unpack(c.b); !slices.Equal(l, c.l) || len(rest) != 0 || e != api.OK {
			t.Errorf("Unpack(%v): %v, %v, %d instead of %v", c.b, l, rest, e, c.l)
		}
	}
}

func TestZigzag(t *testing.T) {
	for n, u := range map[int]uint64{0: 0, -1: 1, 1: 2, -2: 3, 2: 4, 63: 126, -64: 127, 64: 128, -65: 129, greatest: math.MaxUint64 - 1, least: math.MaxUint64, least + 1: math.MaxUint64 - 2} {
		if got := bitpack.Zigzag(n); got != u {
			t.Errorf("Zigzag(%d): %d instead of %d", n, got, u)
		}
		if got := bitpack.Unzigzag(u); got != n {
			t.Errorf("Unzigzag(%d): %d instead of %d", u, got, n)
		}
	}
	eachNumber(func(n int) {
		if got, want := bitpack.Zigzag(n), modelZigzag(n); got != want {
			t.Errorf("Zigzag(%d): %d instead of %d", n, got, want)
		}
	})
	eachCode(func(u uint64) {
		if got, want := bitpack.Unzigzag(u), modelUnzigzag(u); got != want {
			t.Errorf("Unzigzag(%d): %d instead of %d", u, got, want)
		}
	})
}

func TestVarint(t *testing.T) {
	for u, code := range map[uint64][]byte{
		0: {0}, 1: {1}, 127: {127}, 128: {128, 1}, 129: {129, 1}, 255: {255, 1}, 256: {128, 2}, 16383: {255, 127}, 16384: {128, 128, 1},
		1<<63 - 1: {255, 255, 255, 255, 255, 255, 255, 255, 127}, 1 << 63: {128, 128, 128, 128, 128, 128, 128, 128, 128, 1},
		math.MaxUint64: {255, 255, 255, 255, 255, 255, 255, 255, 255, 1},
	} {
		for _, b := range [][]byte{nil, {}, {0}, {128}, {255, 255, 255}} {
			if got, want := bitpack.Varint(b, u), append(slices.Clone(b), code...); !bytes.Equal(got, want) {
				t.Errorf("Varint(%v, %d): %v instead of %v", b, u, got, want)
			}
		}
	}
	eachCode(func(u uint64) {
		b := []byte{200, 7}
		if got, want := bitpack.Varint(b, u), append(slices.Clone(b), modelVarint(u)...); !bytes.Equal(got, want) {
			t.Errorf("Varint(%v, %d): %v instead of %v", b, u, got, want)
		}
	})
}

func TestRead(t *testing.T) {
	high := func(n int, behind ...byte) []byte {
		return append(bytes.Repeat([]byte{255}, n), behind...)
	}
	zero := func(n int, behind ...byte) []byte {
		return append(bytes.Repeat([]byte{128}, n), behind...)
	}
	for _, c := range []struct {
		b    []byte
		u    uint64
		rest []byte
		e    api.Errno
	}{
		{nil, 0, nil, api.ErrShort}, {[]byte{}, 0, nil, api.ErrShort},
		{[]byte{0}, 0, nil, api.OK}, {[]byte{0, 0}, 0, []byte{0}, api.OK}, {[]byte{127, 128}, 127, []byte{128}, api.OK}, {[]byte{172, 2, 9, 8}, 300, []byte{9, 8}, api.OK},
		{zero(1), 0, nil, api.ErrShort}, {high(1), 0, nil, api.ErrShort}, {zero(9), 0, nil, api.ErrShort}, {high(9), 0, nil, api.ErrShort},
		{zero(10), 0, nil, api.ErrForm}, {high(10), 0, nil, api.ErrForm}, {high(11), 0, nil, api.ErrForm}, {high(10, 1), 0, nil, api.ErrForm}, {high(10, 0), 0, nil, api.ErrForm}, {zero(10, 1), 0, nil, api.ErrForm}, {high(300), 0, nil, api.ErrForm},
		{zero(9, 1), 1 << 63, nil, api.OK}, {high(9, 1, 1), math.MaxUint64, []byte{1}, api.OK}, {high(8, 1), 1<<57 - 1, nil, api.OK}, {high(8, 127), 1<<63 - 1, nil, api.OK},
		{high(9, 0), 0, nil, api.ErrForm}, {zero(9, 0), 0, nil, api.ErrForm}, {high(9, 2), 0, nil, api.ErrForm}, {zero(9, 2), 0, nil, api.ErrForm}, {high(9, 3), 0, nil, api.ErrForm}, {high(9, 127), 0, nil, api.ErrForm}, {high(9, 128), 0, nil, api.ErrForm}, {high(9, 129), 0, nil, api.ErrForm},
		{[]byte{128, 0}, 0, nil, api.ErrForm}, {[]byte{129, 0}, 0, nil, api.ErrForm}, {[]byte{255, 128, 0}, 0, nil, api.ErrForm}, {[]byte{255, 128, 0, 1}, 0, nil, api.ErrForm}, {high(8, 0), 0, nil, api.ErrForm},
	} {
		u, rest, e := bitpack.Read(c.b)
		if u != c.u || !bytes.Equal(rest, c.rest) || e != c.e {
			t.Errorf("Read(%v): %d, %v, %d instead of %d, %v, %d", c.b, u, rest, e, c.u, c.rest, c.e)
		}
		if e != api.OK && rest != nil {
			t.Errorf("Read(%v): the bytes %v with an error", c.b, rest)
		}
		checkRead(t, c.b)
	}
}

// eachSequence calls f with each sequence of up to n of these bytes.
func eachSequence(alphabet []byte, n int, f func(b []byte)) {
	eachLonger(nil, alphabet, n, f)
}

// eachLonger calls f with each sequence that begins with b and has up to n further bytes.
func eachLonger[T any](b, alphabet []T, n int, f func(b []T)) {
	f(b)
	if n == 0 {
		return
	}
	for _, x := range alphabet {
		eachLonger(append(slices.Clone(b), x), alphabet, n-1, f)
	}
}

func allBytes() []byte {
	var b []byte
	for x := range 256 {
		b = append(b, byte(x))
	}
	return b
}

func TestReadOfShortSequences(t *testing.T) {
	check := func(b []byte) { checkRead(t, b) }
	eachSequence(allBytes(), 2, check)
	eachSequence([]byte{0, 1, 127, 128, 255}, 6, check)
	for n := range 12 {
		eachSequence([]byte{0, 1, 2, 64, 127, 128, 129, 255}, 3, func(end []byte) {
			check(append(bytes.Repeat([]byte{128}, n), end...))
			check(append(bytes.Repeat([]byte{213}, n), end...))
		})
	}
}

func TestReadOfChangedCodes(t *testing.T) {
	r := newRand()
	for range 20000 {
		b := append(modelVarint(someCode(r)), byte(r.IntN(256)))
		checkRead(t, b)
		i := r.IntN(len(b))
		checkRead(t, b[:i])
		b[i] ^= 1 << r.IntN(8)
		checkRead(t, b)
		b[i] = byte(r.IntN(256))
		checkRead(t, b)
		checkRead(t, slices.Delete(slices.Clone(b), i, i+1))
		checkRead(t, slices.Insert(slices.Clone(b), i, byte(r.IntN(256))))
	}
}

func TestPack(t *testing.T) {
	for _, c := range []struct {
		l []int
		b []byte
	}{
		{[]int{0}, []byte{1, 0, 0}}, {[]int{-1}, []byte{1, 1, 0}}, {[]int{64}, []byte{1, 128, 1, 0}},
		{[]int{-1, 0}, []byte{2, 1, 1, 2}}, {[]int{0, -1}, []byte{2, 1, 1, 1}},
		{[]int{100, 228, 99}, []byte{3, 198, 1, 8, 1, 129, 0}}, {[]int{0, 255}, []byte{2, 0, 8, 0, 255}}, {[]int{0, 256}, []byte{2, 0, 9, 0, 0, 2}},
		{[]int{1, 0, 1, 0, 1, 0, 1, 0, 1}, []byte{9, 0, 1, 85, 1}}, {[]int{1, 0, 1, 0, 1, 0, 1, 1}, []byte{8, 0, 1, 213}},
		{[]int{0, 1, 2, 3, 4, 5, 6, 7}, []byte{8, 0, 3, 136, 198, 250}},
		{[]int{least}, []byte{1, 255, 255, 255, 255, 255, 255, 255, 255, 255, 1, 0}},
		{[]int{greatest}, []byte{1, 254, 255, 255, 255, 255, 255, 255, 255, 255, 1, 0}},
		{[]int{greatest, least}, []byte{2, 255, 255, 255, 255, 255, 255, 255, 255, 255, 1, 64, 255, 255, 255, 255, 255, 255, 255, 255, 0, 0, 0, 0, 0, 0, 0, 0}},
		{[]int{least, -1}, []byte{2, 255, 255, 255, 255, 255, 255, 255, 255, 255, 1, 63, 0, 0, 0, 0, 0, 0, 0, 128, 255, 255, 255, 255, 255, 255, 255, 63}},
	} {
		if b, e := bitpack.Pack(c.l); !bytes.Equal(b, c.b) || e != api.OK {
			t.Errorf("Pack(%v): %v, %d instead of %v", c.l, b, e, c.b)
		}
		checkPack(t, c.l)
	}
}

func TestPackFollowsTheModel(t *testing.T) {
	eachList(func(l []int) { checkPack(t, l) })
}

func TestLongLists(t *testing.T) {
	r := newRand()
	for _, n := range []int{mostList + 1, mostList + 2, 2 * mostList, 16383, 16384, 1 << 17} {
		l := someList(r, n)
		if b, e := bitpack.Pack(l); b != nil || e != api.ErrBig {
			t.Errorf("Pack of %d elements: %d bytes, %d", n, len(b), e)
		}
		if got, want := bitpack.Size(l), len(modelPack(l)); got != want {
			t.Errorf("Size of %d elements: %d instead of %d", n, got, want)
		}
	}
	for n, want := range map[int]int{mostList: 4, mostList + 1: 4, 16383: 4, 16384: 5, 1<<21 - 1: 5, 1 << 21: 6} {
		if got := bitpack.Size(make([]int, n)); got != want {
			t.Errorf("Size of %d zeros: %d instead of %d", n, got, want)
		}
	}
	if got, want := bitpack.Size(alternating(1<<21+1, least, greatest)), 4+10+1+8*(1<<21+1); got != want {
		t.Errorf("Size of elements at both ends: %d instead of %d", got, want)
	}
}

func TestUnpack(t *testing.T) {
	base := func(n byte, code []byte, behind ...byte) []byte {
		return slices.Concat([]byte{n}, code, behind)
	}
	most, beforeMost := modelVarint(math.MaxUint64-1), modelVarint(math.MaxUint64-3)
	lowest := modelVarint(math.MaxUint64)
	for _, c := range []struct {
		b    []byte
		l    []int
		rest []byte
		e    api.Errno
	}{
		{nil, nil, nil, api.ErrShort}, {[]byte{}, nil, nil, api.ErrShort},
		{[]byte{0}, nil, nil, api.OK}, {[]byte{0, 0, 0}, nil, []byte{0, 0}, api.OK}, {[]byte{0, 128, 0}, nil, []byte{128, 0}, api.OK},
		{[]byte{1, 0, 0, 7}, []int{0}, []byte{7}, api.OK}, {[]byte{3, 6, 2, 50, 50, 1}, []int{5, 3, 6}, []byte{50, 1}, api.OK},
		// The number of elements.
		{[]byte{128, 0}, nil, nil, api.ErrForm}, {[]byte{129, 0, 0, 0}, nil, nil, api.ErrForm}, {[]byte{131, 128, 0, 6, 2, 50}, nil, nil, api.ErrForm}, {[]byte{128}, nil, nil, api.ErrShort},
		{[]byte{128, 32, 0, 0}, many(mostList, 0), nil, api.OK}, {[]byte{128, 32}, nil, nil, api.ErrShort},
		{[]byte{129, 32}, nil, nil, api.ErrForm}, {[]byte{129, 32, 0, 0}, nil, nil, api.ErrForm}, {[]byte{128, 64, 128}, nil, nil, api.ErrForm},
		{modelVarint(math.MaxUint64), nil, nil, api.ErrForm}, {modelVarint(1 << 63), nil, nil, api.ErrForm}, {append(modelVarint(1<<32+1), 0, 0), nil, nil, api.ErrForm}, {bytes.Repeat([]byte{255}, 10), nil, nil, api.ErrForm},
		// The base.
		{[]byte{1}, nil, nil, api.ErrShort}, {[]byte{1, 128}, nil, nil, api.ErrShort}, {[]byte{1, 128, 0}, nil, nil, api.ErrForm}, {[]byte{3, 134, 0, 2, 50}, nil, nil, api.ErrForm}, {append([]byte{1}, bytes.Repeat([]byte{255}, 10)...), nil, nil, api.ErrForm}, {append([]byte{1}, bytes.Repeat([]byte{255}, 9)...), nil, nil, api.ErrShort},
		{base(1, lowest, 0), []int{least}, nil, api.OK}, {base(1, most, 0), []int{greatest}, nil, api.OK},
		// The width.
		{[]byte{1, 0}, nil, nil, api.ErrShort}, {[]byte{2, 14, 65}, nil, nil, api.ErrForm}, {[]byte{2, 14, 255}, nil, nil, api.ErrForm}, {[]byte{2, 14, 128}, nil, nil, api.ErrForm}, {append([]byte{1, 0, 65}, make([]byte, 9)...), nil, nil, api.ErrForm}, {[]byte{2, 14, 64}, nil, nil, api.ErrShort},
		{base(1, lowest, 64, 0, 0, 0, 0, 0, 0, 0), nil, nil, api.ErrShort}, {base(1, lowest, 64, 0, 0, 0, 0, 0, 0, 0, 0), nil, nil, api.ErrForm}, {base(1, lowest, 64, 255, 255, 255, 255, 255, 255, 255, 255), nil, nil, api.ErrForm},
		// The differences.
		{[]byte{3, 6, 2}, nil, nil, api.ErrShort}, {[]byte{9, 0, 1, 85}, nil, nil, api.ErrShort}, {[]byte{9, 0, 1, 85, 1}, []int{1, 0, 1, 0, 1, 0, 1, 0, 1}, nil, api.OK},
		{[]byte{9, 0, 1, 255}, nil, nil, api.ErrShort}, // too few bytes, before none of them is 0
		{[]byte{2, 14, 1}, nil, nil, api.ErrShort},
		// None is 0.
		{[]byte{3, 6, 2, 21}, nil, nil, api.ErrForm}, {[]byte{3, 6, 2, 57}, nil, nil, api.ErrForm}, {[]byte{1, 6, 1, 1}, nil, nil, api.ErrForm}, {[]byte{2, 14, 1, 3}, nil, nil, api.ErrForm},
		// The greatest has a lesser width.
		{[]byte{2, 14, 1, 0}, nil, nil, api.ErrForm}, {[]byte{1, 14, 1, 0}, nil, nil, api.ErrForm}, {[]byte{3, 6, 3, 194, 0}, nil, nil, api.ErrForm}, {[]byte{2, 0, 8, 0, 127}, nil, nil, api.ErrForm}, {[]byte{2, 0, 8, 0, 128}, []int{0, 128}, nil, api.OK},
		// The bits that fill up the last byte.
		{[]byte{3, 6, 2, 114}, nil, nil, api.ErrForm}, {[]byte{3, 6, 2, 178}, nil, nil, api.ErrForm}, {[]byte{9, 0, 1, 85, 3}, nil, nil, api.ErrForm}, {[]byte{9, 0, 1, 85, 129}, nil, nil, api.ErrForm}, {[]byte{2, 1, 1, 6}, nil, nil, api.ErrForm}, {[]byte{2, 1, 1, 2, 4}, []int{-1, 0}, []byte{4}, api.OK},
		// A sum beyond the 64-bit integers.
		{base(1, most, 1, 1), nil, nil, api.ErrForm}, {base(2, most, 1, 2), nil, nil, api.ErrForm}, {base(2, beforeMost, 1, 2), []int{greatest - 1, greatest}, nil, api.OK}, {base(2, beforeMost, 2, 8), nil, nil, api.ErrForm}, {base(2, beforeMost, 2, 12), nil, nil, api.ErrForm},
		{base(2, lowest, 64, 0, 0, 0, 0, 0, 0, 0, 0, 255, 255, 255, 255, 255, 255, 255, 255), []int{least, greatest}, nil, api.OK},
		{base(2, modelVarint(math.MaxUint64-2), 64, 0, 0, 0, 0, 0, 0, 0, 0, 255, 255, 255, 255, 255, 255, 255, 255), nil, nil, api.ErrForm},
		{base(2, []byte{0}, 64, 0, 0, 0, 0, 0, 0, 0, 0, 0, 0, 0, 0, 0, 0, 0, 128), nil, nil, api.ErrForm},
		{base(2, []byte{1}, 64, 0, 0, 0, 0, 0, 0, 0, 0, 0, 0, 0, 0, 0, 0, 0, 128), []int{-1, greatest}, nil, api.OK},
	} {
		l, rest, e := bitpack.Unpack(c.b)
		if !slices.Equal(l, c.l) || !bytes.Equal(rest, c.rest) || e != c.e {
			t.Errorf("Unpack(%v): %v, %v, %d instead of %v, %v, %d", c.b, l, rest, e, c.l, c.rest, c.e)
		}
		checkUnpack(t, c.b)
	}
}

func TestUnpackOfShortSequences(t *testing.T) {
	check := func(b []byte) { checkUnpack(t, b) }
	eachSequence(allBytes(), 2, check)
	eachSequence([]byte{0, 1, 2, 3, 7, 8, 63, 64, 65, 128, 129, 255}, 5, check)
	// All differences of few elements of small widths, with the bits that fill up.
	for n := range 6 {
		for width := range 5 {
			for d := range 1 << 10 {
				check([]byte{byte(n), 6, byte(width), byte(d), byte(d >> 8)})
				check(slices.Concat([]byte{byte(n)}, modelVarint(math.MaxUint64-5), []byte{byte(width), byte(d), byte(d >> 8)}))
			}
		}
	}
}

func TestUnpackOfChangedForms(t *testing.T) {
	r := newRand()
	change := func(b []byte, i int) {
		checkUnpack(t, b[:i])
		flipped := slices.Clone(b)
		flipped[i] ^= 1 << r.IntN(8)
		checkUnpack(t, flipped)
		flipped[i] = byte(r.IntN(256))
		checkUnpack(t, flipped)
		checkUnpack(t, slices.Delete(slices.Clone(b), i, i+1))
		checkUnpack(t, slices.Insert(slices.Clone(b), i, byte(r.IntN(256))))
	}
	eachList(func(l []int) {
		if len(l) > 100 {
			return
		}
		b := append(modelPack(l), byte(r.IntN(256)))
		checkUnpack(t, b)
		for i := range min(len(b), 14) {
			change(b, i)
		}
		change(b, r.IntN(len(b)))
		change(b, max(0, len(b)-2))
	})
}

// What a frame says is taken as it is: each width, with differences that need fewer bits, more of them, or none.
func TestUnpackOfOtherFrames(t *testing.T) {
	r := newRand()
	accepted := 0
	for range 20000 {
		n, width := 1+r.IntN(9), r.IntN(66)
		b := slices.Concat(modelVarint(uint64(n)), modelVarint(someCode(r)), []byte{byte(width)})
		at := len(b)
		for range (n*width + 7) / 8 {
			b = append(b, byte(r.IntN(256)))
		}
		if width > 0 && width <= 64 && r.IntN(2) == 0 {
			clearBits(b[at:], 0, width)
			clearBits(b[at:], n*width, 8*(len(b)-at))
		}
		checkUnpack(t, b)
		if _, _, e := bitpack.Unpack(b); e == api.OK {
			accepted++
		}
	}
	if accepted < 2000 {
		t.Errorf("only %d forms were accepted", accepted)
	}
}

func clearBits(b []byte, from, to int) {
	for i := from; i < to; i++ {
		b[i/8] &^= 1 << (i % 8)
	}
}

// P1: any bytes, and each error before those that come later in the form.
func TestUnpackOfAnyBytes(t *testing.T) {
	r := newRand()
	for range 20000 {
		b := make([]byte, r.IntN(30))
		for i := range b {
			b[i] = byte(r.Uint64() >> r.IntN(64))
		}
		checkUnpack(t, b)
		checkRead(t, b)
	}
	for _, b := range [][]byte{bytes.Repeat([]byte{255}, 1<<20), make([]byte, 1<<20), append([]byte{128, 32, 0, 64}, make([]byte, 1<<20)...)} {
		u, _, _ := bitpack.Read(b)
		l, rest, e := bitpack.Unpack(b)
		if b[0] == 0 && (u != 0 || l != nil || len(rest) != len(b)-1 || e != api.OK) || b[0] != 0 && (l != nil || rest != nil || e != api.ErrForm) {
			t.Errorf("Unpack of %d bytes, %d ahead: %d elements, %d bytes, %d", len(b), b[0], len(l), len(rest), e)
		}
	}
}

// C5: what a call must not change is what its arguments refer to, the room behind them included.
func TestArgumentsStay(t *testing.T) {
	eachList(func(l []int) {
		if len(l) > 500 {
			return
		}
		room := append(slices.Clone(l), many(9, 77)...)
		before := slices.Clone(room)
		b, _ := bitpack.Pack(room[:len(l)])
		bitpack.Size(room[:len(l)])
		if !slices.Equal(room, before) {
			t.Errorf("Pack or Size changed %v to %v", before, room)
		}
		form := slices.Concat(b, []byte{1, 2, 3}, bytes.Repeat([]byte{77}, 20))
		whole := slices.Clone(form)
		got, rest, _ := bitpack.Unpack(form[:len(b)+3])
		for i := range got {
			got[i]++
		}
		_ = append(got, 5)
		_ = append(rest, 5)
		if !bytes.Equal(form, whole) {
			t.Errorf("Unpack changed %v to %v", whole, form)
		}
	})
	eachCode(func(u uint64) {
		room := bytes.Repeat([]byte{77}, 16)
		first := bitpack.Varint(room[:3], u)
		second := bitpack.Varint(room[:3], ^u)
		if !bytes.Equal(room, bytes.Repeat([]byte{77}, 16)) {
			t.Errorf("Varint of %d changed its argument to %v", u, room)
		}
		if !bytes.Equal(first[3:], modelVarint(u)) || !bytes.Equal(second[3:], modelVarint(^u)) {
			t.Errorf("Varint of %d and of %d share memory: %v, %v", u, ^u, first, second)
		}
		_, rest, _ := bitpack.Read(first)
		_ = append(rest, 5)
		if !bytes.Equal(first[3:], modelVarint(u)) {
			t.Errorf("Read of %d changed its argument to %v", u, first)
		}
	})
}

// Results are those of the arguments, whatever was called before.
func TestNothingIsKept(t *testing.T) {
	l := []int{5, 3, 6}
	b, _ := bitpack.Pack(l)
	b[0]++
	l[0], l[1], l[2] = 9, 9, 9
	again, e := bitpack.Pack([]int{5, 3, 6})
	if !bytes.Equal(again, []byte{3, 6, 2, 50}) || e != api.OK {
		t.Errorf("Pack: %v, %d", again, e)
	}
	first, _, _ := bitpack.Unpack(again)
	first[0] = 0
	if second, _, e := bitpack.Unpack(again); !slices.Equal(second, []int{5, 3, 6}) || e != api.OK {
		t.Errorf("Unpack: %v, %d", second, e)
	}
}

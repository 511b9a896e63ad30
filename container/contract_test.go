package container_test

import (
	"bytes"
	"math"
	"math/rand/v2"
	"slices"
	"testing"

	"chapman/api"
	"chapman/container"
	"chapman/digest"
)

// These tests are for P9.1 (contract), for I5 and for P1 of the document.

// example is the file of the document's example, and exampleForm its sealed form; the checksum was computed by another program.
func example() api.File { return file(2, list(5), 9) }

func exampleForm() []byte {
	return []byte{67, 72, 77, 2, 1, 10, 0, 1, 9, 249, 13, 239, 181, 53, 11, 198, 121}
}

func checkSeal(t *testing.T, f api.File) {
	t.Helper()
	b, e := container.Seal(f)
	if want, wantE := modelSeal(f); !bytes.Equal(b, want) || e != wantE || e != api.OK && b != nil {
		t.Errorf("Seal of the kind %d, the id %v and %d bytes: %v, %d instead of %v, %d", f.Kind, short(f.Id), len(f.Data), short(b), e, short(want), wantE)
	}
}

func checkOpen(t *testing.T, b []byte) {
	t.Helper()
	f, e := container.Open(b)
	if want, wantE := modelOpen(b); !same(f, want) || e != wantE {
		t.Errorf("Open of %d bytes %v: %v, %d instead of %v, %d", len(b), short(b), f, e, want, wantE)
	}
}

func checkSplit(t *testing.T, b []byte) {
	t.Helper()
	l, rest := container.Split(b)
	if want, wantRest := modelSplit(b); !slices.EqualFunc(l, want, same) || !bytes.Equal(rest, wantRest) {
		t.Errorf("Split of %d bytes %v: %v, %v instead of %v, %v", len(b), short(b), l, short(rest), want, short(wantRest))
	}
}

// checkBytes holds what reads bytes against the model, for any bytes.
func checkBytes(t *testing.T, b []byte) {
	t.Helper()
	checkOpen(t, b)
	checkSplit(t, b)
}

func checkCmp(t *testing.T, f, g api.File) {
	t.Helper()
	if c, want := container.Cmp(f, g), modelCmp(f, g); c != want {
		t.Errorf("Cmp of %d %v and %d %v: %d instead of %d", f.Kind, short(f.Id), g.Kind, short(g.Id), c, want)
	}
}

func TestExamples(t *testing.T) {
	f, form := example(), exampleForm()
	if b, e := container.Seal(f); !bytes.Equal(b, form) || len(b) != 17 || e != api.OK {
		t.Errorf("Seal: %v, %d", b, e)
	}
	if got, e := container.Open(form); !same(got, f) || e != api.OK {
		t.Errorf("Open: %v, %d", got, e)
	}
	if got, e := container.Open(form[:16]); !isZero(got) || e != api.ErrShort {
		t.Errorf("Open of 16 bytes: %v, %d", got, e)
	}
	form[0] = 66
	if got, e := container.Open(form); !isZero(got) || e != api.ErrRot {
		t.Errorf("Open with the first byte 66: %v, %d", got, e)
	}
	f.Kind = 10
	if b, e := container.Seal(f); b != nil || e != api.ErrArg {
		t.Errorf("Seal of the kind 10: %v, %d", b, e)
	}
}

// I1: forms that were written by hand; their checksums were computed by another program.
func TestForms(t *testing.T) {
	var counting []byte
	for i := range 130 {
		counting = append(counting, byte(i))
	}
	for i, c := range []struct {
		f   api.File
		b   []byte
		sum []byte
	}{
		{example(), []byte{67, 72, 77, 2, 1, 10, 0, 1, 9}, []byte{249, 13, 239, 181, 53, 11, 198, 121}},
		{file(1, nil), []byte{67, 72, 77, 1, 0, 0}, []byte{147, 247, 255, 231, 18, 67, 189, 140}},
		{file(9, list(5, 3, 6), []byte("ab")...), []byte{67, 72, 77, 9, 3, 6, 2, 50, 2, 97, 98}, []byte{53, 182, 189, 154, 19, 34, 223, 209}},
		{file(4, list(-1, 0)), []byte{67, 72, 77, 4, 2, 1, 1, 2, 0}, []byte{70, 108, 191, 5, 137, 183, 157, 185}},
		{file(3, nil, counting...), append([]byte{67, 72, 77, 3, 0, 130, 1}, counting...), []byte{29, 224, 44, 219, 194, 127, 229, 199}},
	} {
		form := slices.Concat(c.b, c.sum)
		if b, e := container.Seal(c.f); !bytes.Equal(b, form) || e != api.OK {
			t.Errorf("case %d, Seal: %v, %d instead of %v", i, b, e, form)
		}
		if f, e := container.Open(form); !same(f, c.f) || e != api.OK {
			t.Errorf("case %d, Open: %v, %d", i, f, e)
		}
		if l, rest := container.Split(form); len(l) != 1 || !same(l[0], c.f) || len(rest) != 0 {
			t.Errorf("case %d, Split: %v, %v", i, l, rest)
		}
	}
}

func TestSeal(t *testing.T) {
	big, long := make([]byte, mostData+1), make([]int, mostId+1)
	for i, c := range []struct {
		f api.File
		e api.Errno
	}{
		{api.File{}, api.ErrArg}, {file(0, list(1), 1), api.ErrArg}, {file(1, nil), api.OK}, {file(9, nil), api.OK}, {file(10, nil), api.ErrArg}, {file(-1, nil), api.ErrArg}, {file(257, nil), api.ErrArg}, {file(math.MinInt, nil), api.ErrArg}, {file(math.MaxInt, nil), api.ErrArg},
		{file(1, long[1:]), api.OK}, {file(1, long), api.ErrArg}, {file(9, make([]int, 5000)), api.ErrArg}, {file(1, nil, big[1:]...), api.OK}, {file(1, nil, big...), api.ErrBig}, {file(9, long[1:], big[1:]...), api.OK}, {file(9, long[1:], big...), api.ErrBig},
		// The first of two errors.
		{file(0, nil, big...), api.ErrArg}, {file(10, long, big...), api.ErrArg}, {file(1, long, big...), api.ErrArg},
	} {
		if b, e := container.Seal(c.f); e != c.e || (b != nil) != (e == api.OK) {
			t.Errorf("case %d: %v, %d instead of %d", i, short(b), e, c.e)
		}
	}
	eachFile(func(f api.File) { checkSeal(t, f) })
	for _, f := range oddFiles() {
		checkSeal(t, f)
	}
	for kind := -300; kind < 600; kind++ {
		checkSeal(t, file(kind, list(kind), 1, 2))
	}
	for n := range 100 {
		checkSeal(t, file(5, counted(n), 1))
	}
}

// I2: which error the bytes have, part by part.
func TestOpen(t *testing.T) {
	form := exampleForm()
	head := func(b ...byte) []byte { return append([]byte{67, 72, 77}, b...) }
	whole := func(b ...byte) []byte { return sealed(head(b...)) }
	room := make([]byte, 100)
	for i, c := range []struct {
		b []byte
		e api.Errno
	}{
		{form, api.OK}, {nil, api.ErrShort}, {[]byte{}, api.ErrShort},
		// The letters.
		{[]byte{67}, api.ErrShort}, {[]byte{67, 72}, api.ErrShort}, {[]byte{67, 72, 77}, api.ErrShort}, {[]byte{66}, api.ErrRot}, {[]byte{0}, api.ErrRot}, {[]byte{99}, api.ErrRot}, {[]byte{67, 71}, api.ErrRot}, {[]byte{72, 67}, api.ErrRot}, {[]byte{67, 72, 78}, api.ErrRot}, {[]byte{67, 73, 77}, api.ErrRot}, {append([]byte{67, 72, 76}, form[3:]...), api.ErrRot}, {append([]byte{0}, form...), api.ErrRot}, {form[1:], api.ErrRot},
		// The kind.
		{head(0), api.ErrRot}, {head(1), api.ErrShort}, {head(9), api.ErrShort}, {head(10), api.ErrRot}, {head(255), api.ErrRot}, {whole(0, 0, 0), api.ErrRot}, {whole(1, 0, 0), api.OK}, {whole(9, 0, 0), api.OK}, {whole(10, 0, 0), api.ErrRot}, {whole(128, 0, 0), api.ErrRot},
		// The identity.
		{head(1, 128), api.ErrShort}, {head(1, 128, 0), api.ErrRot}, {head(1, 1), api.ErrShort}, {head(1, 1, 10), api.ErrShort}, {head(1, 1, 138), api.ErrShort}, {head(1, 1, 138, 0), api.ErrRot}, {head(1, 1, 10, 65), api.ErrRot}, {head(1, 1, 10, 1), api.ErrShort}, {whole(1, 1, 10, 1, 0, 0), api.ErrRot}, {head(1, 2, 10, 1, 3), api.ErrRot}, {head(1, 2, 10, 1, 2), api.ErrShort}, {head(1, 2, 10, 1, 6), api.ErrRot}, {whole(1, 2, 10, 1, 2, 0), api.OK}, {whole(1, 2, 10, 1, 1, 0), api.OK}, {whole(1, 2, 10, 1, 5, 0), api.ErrRot},
		// Too many numbers: it is no part once it is there.
		{head(1, 41), api.ErrShort}, {head(1, 41, 0), api.ErrShort}, {head(1, 41, 0, 0), api.ErrRot}, {whole(1, 41, 0, 0, 0), api.ErrRot}, {whole(1, 40, 0, 0, 0), api.OK}, {head(1, 128, 32), api.ErrShort}, {head(1, 128, 32, 0, 0), api.ErrRot}, {head(1, 129, 32), api.ErrRot}, {head(1, 255, 255, 255, 255, 15), api.ErrRot},
		// The length.
		{head(1, 0), api.ErrShort}, {head(1, 0, 128), api.ErrShort}, {head(1, 0, 255, 255), api.ErrShort}, {head(1, 0, 128, 0), api.ErrRot}, {whole(1, 0, 128, 0), api.ErrRot}, {head(1, 0, 128, 128, 4), api.ErrShort}, {head(1, 0, 129, 128, 4), api.ErrRot}, {whole(1, 0, 129, 128, 4), api.ErrRot}, {head(1, 0, 128, 128, 8), api.ErrRot}, {sealed(head(append([]byte{1, 0, 128, 128, 4}, make([]byte, mostData)...)...)), api.OK}, {sealed(head(append([]byte{1, 0, 129, 128, 4}, make([]byte, mostData+1)...)...)), api.ErrRot},
		{head(1, 0, 255, 255, 255, 255, 255, 255, 255, 255, 255, 1), api.ErrRot}, {head(1, 0, 255, 255, 255, 255, 255, 255, 255, 255, 127), api.ErrRot}, {append(head(1, 0, 248, 255, 255, 255, 255, 255, 255, 255, 255, 1), room...), api.ErrRot}, {append(head(1, 0, 255, 255, 255, 255, 255, 255, 255, 255, 255, 2), room...), api.ErrRot}, {head(1, 0, 128, 128, 128, 128, 128, 128, 128, 128, 128), api.ErrShort}, {append(head(1, 0, 128, 128, 128, 128, 16), room...), api.ErrRot},
		// The data and the checksum.
		{head(1, 0, 1), api.ErrShort}, {whole(1, 0, 1), api.ErrShort}, {head(1, 0, 0), api.ErrShort}, {head(1, 0, 0, 1, 2, 3, 4, 5, 6, 7), api.ErrShort}, {head(1, 0, 0, 1, 2, 3, 4, 5, 6, 7, 8), api.ErrRot}, {head(1, 0, 1, 1, 2, 3, 4, 5, 6, 7, 8), api.ErrShort}, {append(head(1, 0, 100), room...), api.ErrShort}, {form[:16], api.ErrShort}, {append(form[:16:16], 0), api.ErrRot}, {append(form[:16:16], 121), api.OK}, {append(exampleForm(), 0), api.ErrRot}, {append(exampleForm(), form...), api.ErrRot}, {append(exampleForm(), room...), api.ErrRot}, {whole(2, 1, 10, 0, 0, 9), api.ErrRot}, {whole(2, 1, 10, 0, 2, 9), api.ErrShort},
		// A checksum of something else.
		{slices.Concat(form[:9], sealed(form[1:9])[8:]), api.ErrRot}, {slices.Concat(form[:9], sealed(form[8:9])[1:]), api.ErrRot}, {append(form[:9:9], 121, 198, 11, 53, 181, 239, 13, 249), api.ErrRot}, {sealed(sealed(form[:9])), api.ErrRot},
	} {
		f, e := container.Open(c.b)
		if e != c.e || e != api.OK && !isZero(f) {
			t.Errorf("case %d, Open(%v): %v, %d instead of %d", i, short(c.b), f, e, c.e)
		}
		checkOpen(t, c.b)
	}
}

func TestSplit(t *testing.T) {
	f, g := file(1, nil), example()
	one, two := sealed([]byte{67, 72, 77, 1, 0, 0}), exampleForm()
	bad := exampleForm()
	bad[8]++
	inside, _ := container.Seal(file(3, list(1), one...))
	for i, c := range []struct {
		b    []byte
		l    []api.File
		rest []byte
	}{
		{nil, nil, nil}, {[]byte{}, nil, nil}, {one, list(f), nil}, {slices.Concat(one, two), list(f, g), nil}, {slices.Concat(two, one, one, two), list(g, f, f, g), nil},
		{slices.Concat(one, two[:16]), list(f), two[:16]}, {slices.Concat(one, two[:1]), list(f), two[:1]}, {one[:13], nil, one[:13]}, {slices.Concat(one, []byte{0}), list(f), []byte{0}},
		// What comes behind is not looked for.
		{slices.Concat(one, bad, two), list(f), slices.Concat(bad, two)}, {slices.Concat(bad, one), nil, slices.Concat(bad, one)}, {slices.Concat([]byte{0}, one), nil, slices.Concat([]byte{0}, one)}, {slices.Concat(two[:16], two), nil, slices.Concat(two[:16], two)}, {slices.Concat(one, []byte{67, 72, 77, 10, 0, 0}, one), list(f), slices.Concat([]byte{67, 72, 77, 10, 0, 0}, one)},
		// Nor inside of a file.
		{inside, list(file(3, list(1), one...)), nil}, {slices.Concat(inside, inside[:len(inside)-1]), list(file(3, list(1), one...)), inside[:len(inside)-1]},
	} {
		l, rest := container.Split(c.b)
		if !slices.EqualFunc(l, c.l, same) || !bytes.Equal(rest, c.rest) {
			t.Errorf("case %d, Split(%v): %v, %v", i, short(c.b), l, rest)
		}
		checkSplit(t, c.b)
	}
}

// I3: a sequence of any length takes no more than its bytes, and no level of nesting for a file.
func TestLongSequences(t *testing.T) {
	var b []byte
	n := 0
	for ; len(b) < 1<<22; n++ {
		b = append(b, exampleForm()...)
	}
	l, rest := container.Split(append(b, 67))
	if len(l) != n || !same(l[0], example()) || !same(l[n-1], example()) || !bytes.Equal(rest, []byte{67}) {
		t.Errorf("%d files instead of %d, and %v", len(l), n, rest)
	}
	// Who looks for a sealed form begins at each byte.
	zeros := make([]byte, 1<<20)
	for i := range zeros {
		if l, rest := container.Split(zeros[i:]); len(l) != 0 || len(rest) != len(zeros)-i {
			t.Fatalf("Split of %d zeros: %v, and %d bytes", len(zeros)-i, l, len(rest))
		}
	}
}

func TestCmp(t *testing.T) {
	// In order.
	l := []api.File{file(math.MinInt, nil), file(-3, list(9)), {}, file(0, list(0)), file(1, nil), file(1, list(math.MinInt)), file(1, list(-5)), file(1, list(-5, math.MinInt)), file(1, list(-5, -9)), file(1, list(-5, -9, 0)), file(1, list(0)), file(1, list(0, 0)), file(1, list(0, 1)), file(1, list(0, 1, 2)), file(1, list(0, 2)), file(1, list(1)), file(1, list(9)), file(1, list(10)), file(1, many(mostId, 10)), file(1, list(math.MaxInt)), file(2, nil), file(2, list(math.MinInt)), file(2, list(5)), file(2, list(5, 5)), file(2, list(6, 0)), file(9, nil), file(10, nil), file(300, many(5000, 1)), file(300, many(5001, 1)), file(math.MaxInt, nil), file(math.MaxInt, list(math.MaxInt))}
	for i, f := range l {
		for k, g := range l {
			want := 0
			if i < k {
				want = -1
			} else if i > k {
				want = 1
			}
			f.Data, g.Data = []byte{byte(k), 1}, []byte{byte(i)}
			if c := container.Cmp(f, g); c != want {
				t.Errorf("Cmp of %d %v and %d %v: %d instead of %d", f.Kind, short(f.Id), g.Kind, short(g.Id), c, want)
			}
			checkCmp(t, f, g)
		}
	}
	r := newRand()
	for range 20000 {
		f := file(r.IntN(3), someId(r, r.IntN(4)))
		g := file(r.IntN(3), someId(r, r.IntN(4)))
		checkCmp(t, f, g)
		n := r.IntN(min(len(f.Id), len(g.Id)) + 1)
		copy(g.Id[:n], f.Id)
		g.Kind = f.Kind
		checkCmp(t, f, g)
		checkCmp(t, g, f)
	}
}

// P9.1: sequences that begin as sealed forms do, with the proper checksum behind them and without it.
func TestShortSequences(t *testing.T) {
	check := func(b []byte) {
		checkBytes(t, b)
		checkBytes(t, sealed(b))
		checkBytes(t, append(sealed(b), 67))
	}
	eachLonger(nil, []byte{67, 72, 77, 0, 1}, 5, check)
	eachLonger([]byte("CHM"), []byte{0, 1, 2, 9, 10, 128}, 4, check)
	eachLonger([]byte("CHM\x01"), []byte{0, 1, 2, 3, 40, 41, 64, 65, 128, 255}, 4, check)
	eachLonger([]byte("CHM\x09\x01\x0a\x00"), []byte{0, 1, 2, 3, 127, 128, 255}, 4, check)
	eachLonger([]byte("CHM\x05\x00\x02"), []byte{0, 67, 72, 77, 255}, 4, check)
	eachLonger([]byte("CHM\x05\x00\x80"), []byte{0, 1, 3, 4, 5, 127, 128, 129, 255}, 3, check)
}

func TestChangedForms(t *testing.T) {
	r := newRand()
	eachSmallFile(func(f api.File) {
		b, _ := modelSeal(f)
		checkBytes(t, b)
		for range 5 {
			changes(r, b, func(b []byte) { checkOpen(t, b) })
		}
		changes(r, b[:len(b)-8], func(b []byte) { checkBytes(t, sealed(b)) })
	})
	eachFile(func(f api.File) {
		b, _ := modelSeal(f)
		checkOpen(t, b)
		changes(r, b, func(b []byte) { checkOpen(t, b) })
	})
}

// P1: any bytes.
func TestAnyBytes(t *testing.T) {
	r := newRand()
	for range 50000 {
		b := someData(r, r.IntN(40))
		copy(b, "CHM"[:r.IntN(4)])
		if len(b) > 3 && r.IntN(2) == 0 {
			b[3] = byte(r.IntN(11))
		}
		checkBytes(t, b)
	}
	for x := range 256 {
		checkOpen(t, bytes.Repeat([]byte{byte(x)}, 100000))
		for n := range 14 {
			checkOpen(t, append(exampleForm()[:n], bytes.Repeat([]byte{byte(x)}, 100000)...))
		}
	}
}

// withRoom returns a copy of l that has room behind it, which is written, too, and all of that memory.
func withRoom[T any](l []T, x T) ([]T, []T) {
	all := append(slices.Clone(l), many(60, x)...)
	return all[:len(l)], all
}

// spoil overwrites a file, and the room behind it.
func spoil(f api.File) {
	for i := range f.Id {
		f.Id[i] = -99
	}
	for i := range f.Data {
		f.Data[i] ^= 255
	}
	_, _ = append(f.Id, -99), append(f.Data, 99)
}

// I5: what a call must not change is what its arguments refer to, the room behind them included; and what is done to a file changes neither an argument nor another file.
func TestArgumentsStay(t *testing.T) {
	r := newRand()
	eachSmallFile(func(f api.File) {
		id, allId := withRoom(f.Id, 77)
		data, allData := withRoom(f.Data, 77)
		g := api.File{Kind: f.Kind, Id: id, Data: data}
		b, _ := container.Seal(g)
		container.Cmp(g, f)
		for i := range b {
			b[i] ^= 255
		}
		_ = append(b, 5)
		if !slices.Equal(allId, append(slices.Clone(f.Id), many(60, 77)...)) || !bytes.Equal(allData, append(slices.Clone(f.Data), many[byte](60, 77)...)) {
			t.Errorf("the file %v was changed to %v, %v", f, allId, allData)
		}
		checkMemoryOfBytes(t, r, f)
	})
}

// checkMemoryOfBytes checks that reading changes nothing, and that changing the files does not, nor appending to the bytes behind them.
func checkMemoryOfBytes(t *testing.T, r *rand.Rand, f api.File) {
	t.Helper()
	form, _ := modelSeal(f)
	b, all := withRoom(slices.Concat(form, form, form[:r.IntN(len(form))]), 7)
	before := slices.Clone(all)
	one, _ := container.Open(b[:len(form)])
	l, rest := container.Split(b)
	spoil(one)
	if len(l) != 2 || !same(l[0], f) || !same(l[1], f) {
		t.Fatalf("Split of the file %v twice: %v", f, l)
	}
	spoil(l[1])
	if !same(l[0], f) {
		t.Errorf("two files of a sequence share memory: %v", l)
	}
	spoil(l[0])
	_ = append(rest, 5)
	for _, none := range [][]byte{b[:0], b[:3], b[:len(form)-1], b[1:]} {
		_, rest := container.Split(none)
		_ = append(rest, 5)
	}
	if !bytes.Equal(all, before) {
		t.Errorf("reading changed %v to %v", short(before), short(all))
	}
}

// I2: the checksum is the digest of everything ahead of it.
func TestChecksums(t *testing.T) {
	eachFile(func(f api.File) {
		b, _ := container.Seal(f)
		d := digest.Bytes(b[:len(b)-8])
		for i, x := range b[len(b)-8:] {
			if x != byte(d>>(8*i)) {
				t.Fatalf("the checksum of %v: %v instead of %x", short(b), b[len(b)-8:], d)
			}
		}
	})
}

package container_test

import (
	"bytes"
	"math"
	"math/rand/v2"
	"slices"

	"chapman/api"
)

// The files and the bytes that the tests try.

func newRand() *rand.Rand { return rand.New(rand.NewPCG(9, 9)) }

// file returns the file with this kind, this identity and these contents.
func file(kind int, id []int, data ...byte) api.File {
	return api.File{Kind: kind, Id: id, Data: data}
}

// list returns its arguments.
func list[T any](l ...T) []T { return l }

func many[T any](n int, x T) []T { return slices.Repeat([]T{x}, n) }

// counted returns n numbers: 0, 1, 2 and so on.
func counted(n int) []int {
	l := make([]int, n)
	for i := range l {
		l[i] = i
	}
	return l
}

// short returns the first elements of a list, for a message.
func short[T any](l []T) []T { return l[:min(len(l), 60)] }

func copyOf(f api.File) api.File {
	return api.File{Kind: f.Kind, Id: slices.Clone(f.Id), Data: slices.Clone(f.Data)}
}

func same(f, g api.File) bool {
	return f.Kind == g.Kind && slices.Equal(f.Id, g.Id) && bytes.Equal(f.Data, g.Data)
}

func isZero(f api.File) bool { return f.Kind == 0 && len(f.Id) == 0 && len(f.Data) == 0 }

// someNumber returns an integer; each size is as likely.
func someNumber(r *rand.Rand) int {
	n := int(r.Uint64() >> r.IntN(64))
	if r.IntN(2) == 0 {
		return -n
	}
	return n
}

func someId(r *rand.Rand, n int) []int {
	l := make([]int, n)
	for i := range l {
		l[i] = someNumber(r)
	}
	return l
}

func someData(r *rand.Rand, n int) []byte {
	b := make([]byte, n)
	for i := range b {
		b[i] = byte(r.Uint64() >> r.IntN(64))
	}
	return b
}

// someFile returns a valid file with at most so much data, which may be a sealed form itself.
func someFile(r *rand.Rand, most int) api.File {
	data := someData(r, r.IntN(most+1)/(1+r.IntN(9)))
	if r.IntN(9) == 0 {
		inner, _ := modelSeal(file(1+r.IntN(lastKind), someId(r, r.IntN(3)), data[:len(data)/3]...))
		data = inner
	}
	return file(1+r.IntN(lastKind), someId(r, r.IntN(mostId+1)/(1+r.IntN(20))), data...)
}

func edgeIds() [][]int {
	return [][]int{
		nil, {}, {0}, {1}, {-1}, {5}, {5, 3, 6}, {7, 7}, {0, 0, 0}, {math.MinInt}, {math.MaxInt}, {math.MinInt, math.MaxInt}, {math.MaxInt, 0, math.MinInt},
		many(mostId-1, 3), many(mostId, 0), many(mostId, math.MinInt), append(many(mostId-1, math.MaxInt), math.MinInt), counted(mostId),
	}
}

// eachSmallFile calls f with valid files of at most 400 bytes of data or so: all kinds, and all edges of the identity.
func eachSmallFile(f func(f api.File)) {
	r := newRand()
	for kind := 1; kind <= lastKind; kind++ {
		for _, id := range edgeIds() {
			f(file(kind, id))
			f(file(kind, id, someData(r, 1+r.IntN(9))...))
		}
		for _, n := range []int{1, 2, 7, 8, 9, 126, 127, 128, 129, 255, 256, 400} {
			f(file(kind, list(n), make([]byte, n)...))
			f(file(kind, nil, someData(r, n)...))
		}
	}
	f(file(8, nil, []byte("CHM")...))
	for range 1000 {
		f(someFile(r, 60))
	}
}

// eachFile calls f with these, and with files whose data has a length of two bytes or three.
func eachFile(f func(f api.File)) {
	eachSmallFile(f)
	r := newRand()
	for i, n := range []int{1000, 16383, 16384, 16385, 32768, 50000, mostData - 9, mostData - 1, mostData} {
		f(file(1+i, someId(r, i), someData(r, n)...))
		f(file(1+i, someId(r, mostId-i), make([]byte, n)...))
	}
	f(file(lastKind, many(mostId, 1), many[byte](mostData, 255)...))
}

// oddFiles returns files that are not valid, and those beside them.
func oddFiles() []api.File {
	big, full := make([]byte, mostData+1), make([]byte, mostData)
	return []api.File{
		{}, file(0, nil, 1), file(10, nil), file(-1, nil), file(11, list(1)), file(255, nil), file(256, nil), file(257, nil), file(1+1<<32, nil), file(math.MinInt, nil), file(math.MaxInt, nil, 1),
		file(1, many(mostId+1, 0)), file(9, counted(mostId+1), 1), file(1, many(4096, 0)), file(1, many(4097, 0)), file(9, many(100000, 1)),
		file(1, nil, big...), file(9, list(5), big...), file(1, many(mostId, 0), big...), file(1, nil, make([]byte, 1<<20)...),
		// Both.
		file(0, nil, big...), file(10, nil, big...), file(1, many(mostId+1, 0), big...), file(0, many(mostId+1, 0), big...), file(0, many(mostId+1, 0), full...), file(10, many(mostId, 0), full...), file(9, many(mostId+1, 0), full...),
		file(9, many(mostId, 0), full...),
	}
}

// eachLonger calls f with each sequence that begins with l and has up to n further elements.
func eachLonger[T any](l, alphabet []T, n int, f func(l []T)) {
	f(l)
	if n == 0 {
		return
	}
	for _, x := range alphabet {
		eachLonger(append(slices.Clone(l), x), alphabet, n-1, f)
	}
}

// changes calls f with bytes that were changed, cut short or made longer at one place.
func changes(r *rand.Rand, b []byte, f func(b []byte)) {
	i := r.IntN(len(b))
	f(b[:i])
	f(append(slices.Clone(b), byte(r.IntN(256))))
	f(slices.Delete(slices.Clone(b), i, i+1))
	f(slices.Insert(slices.Clone(b), i, byte(r.IntN(256))))
	flipped := slices.Clone(b)
	flipped[i] ^= 1 << r.IntN(8)
	f(flipped)
	near := slices.Clone(b)
	near[r.IntN(min(len(b), 12))] = byte(r.IntN(256))
	f(near)
}

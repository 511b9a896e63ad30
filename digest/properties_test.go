package digest

import (
	"math"
	"slices"
	"testing"

	"chapman/api"
)

// P1.2: a change of one element, whatever it is, changes the digest.
func TestOneChangedNumber(t *testing.T) {
	r := newRand()
	for _, n := range edgeLengths {
		l := someNumbers(r, n)
		before := Words(l)
		for i, x := range l {
			for _, y := range []int{x ^ 1, x ^ 1<<31, x ^ 1<<32, x ^ math.MinInt, ^x, x + 1, -x, int(someWord(r))} {
				l[i] = y
				if y != x && Words(l) == before {
					t.Errorf("%d numbers: %d instead of %d at %d leaves the digest", n, y, x, i)
				}
			}
			l[i] = x
		}
	}
}

func TestOneChangedDigest(t *testing.T) {
	r := newRand()
	for _, n := range edgeLengths {
		l := someDigests(r, n)
		before := List(l)
		for i, x := range l {
			for _, y := range []uint64{x ^ 1, x ^ 1<<31, x ^ 1<<32, x ^ 1<<63, ^x, x + 1, -x, someWord(r)} {
				l[i] = y
				if y != x && List(l) == before {
					t.Errorf("%d digests: %x instead of %x at %d leaves the digest", n, y, x, i)
				}
			}
			l[i] = x
		}
	}
}

func TestOneChangedByte(t *testing.T) {
	r := newRand()
	for n := 1; n <= 33; n++ {
		b := someBytes(r, n)
		before := Bytes(b)
		for i, x := range b {
			for y := range 256 {
				b[i] = byte(y)
				if b[i] != x && Bytes(b) == before {
					t.Errorf("%d bytes: %d instead of %d at %d leaves the digest", n, y, x, i)
				}
			}
			b[i] = x
		}
	}
}

func TestOneChangedByteOfMany(t *testing.T) {
	r := newRand()
	b := someBytes(r, 1100)
	before := Bytes(b)
	for i := range b {
		b[i] ^= 128
		if Bytes(b) == before {
			t.Errorf("a change of the byte %d leaves the digest", i)
		}
		b[i] ^= 128
	}
}

func TestOneChangedHalf(t *testing.T) {
	r := newRand()
	for range 2000 {
		a, b, c := someWord(r), someWord(r), someWord(r)
		if c != a && Join(c, b) == Join(a, b) {
			t.Errorf("the pair %x, %x has the digest of %x, %x", c, b, a, b)
		}
		if c != b && Join(a, c) == Join(a, b) {
			t.Errorf("the pair %x, %x has the digest of %x, %x", a, c, a, b)
		}
	}
}

// P1.3: inverse returns the number whose product with x is 1. Each round doubles the number of bits that are right.
func inverse(x uint64) uint64 {
	y := x
	for range 6 {
		y *= 2 - x*y
	}
	return y
}

// back returns what was xored to make the result of a step.
func back(result uint64) uint64 {
	b := result * inverse(0xa0761d6478bd642f)
	a := b ^ b>>32
	return a * inverse(0xd6e8feb86659fd93)
}

func TestStepCanBeUndone(t *testing.T) {
	check := func(h, w uint64) {
		x := back(Step(h, w))
		if x^w != h {
			t.Errorf("Step(%x, %x) and the word lead back to the digest %x", h, w, x^w)
		}
		if x^h != w {
			t.Errorf("Step(%x, %x) and the digest lead back to the word %x", h, w, x^h)
		}
		if Step(back(h)^w, w) != h || Step(w, back(h)^w) != h {
			t.Errorf("no step from or with the word %x leads to the digest %x", w, h)
		}
	}
	for _, h := range edgeWords {
		for _, w := range edgeWords {
			check(h, w)
		}
	}
	r := newRand()
	for range 2000 {
		check(r.Uint64(), r.Uint64())
	}
}

// P1.4: zero bytes up to the end of the last group tell.
func TestZeroBytesTell(t *testing.T) {
	r := newRand()
	for n := 1; n < 70; n++ {
		for _, b := range [][]byte{someBytes(r, n), make([]byte, n)} {
			seen := map[uint64]int{Bytes(b): n}
			for len(b)%8 != 0 {
				b = append(b, 0)
				if m, ok := seen[Bytes(b)]; ok {
					t.Errorf("%d bytes, filled up to %d, have the digest of those filled up to %d", n, len(b), m)
				}
				seen[Bytes(b)] = len(b)
			}
		}
	}
}

// P1.5
func TestBucketsOfMultiples(t *testing.T) {
	r := newRand()
	for range 5000 {
		d, n := someWord(r), 1+r.IntN(1000)
		k, e := Bucket(d, n)
		if e != api.OK || k < 0 || k >= n {
			t.Fatalf("Bucket(%x, %d): %d, %d", d, n, k, e)
		}
		m := n * (1 + r.IntN(1000000/n))
		if far, e := Bucket(d, m); e != api.OK || far < 0 || far >= m || far%n != k {
			t.Fatalf("Bucket(%x, %d): %d, %d, but that of %d is %d", d, m, far, e, n, k)
		}
	}
}

// P1.6: twin returns another list with the digest of l, which has two elements at least. Behind another first word, the second one is chosen so that the step with it leads to the same digest.
func twin(seed uint64, l []uint64) []uint64 {
	m := slices.Clone(l)
	m[0]++
	m[1] ^= Step(seed, l[0]) ^ Step(seed, m[0])
	return m
}

func ints(l []uint64) []int {
	var out []int
	for _, w := range l {
		out = append(out, int(w))
	}
	return out
}

func fromWords(l []uint64) []byte {
	var out []byte
	for _, w := range l {
		for i := range 8 {
			out = append(out, byte(w>>(8*i)))
		}
	}
	return out
}

func TestSameDigestsStaySame(t *testing.T) {
	r := newRand()
	for _, n := range []int{2, 3, 5, 62, 63, 64, 65, 130} {
		for _, k := range []int{0, 1, 2, 7, 63, 64, 65} {
			l, more := someDigests(r, n), someDigests(r, k)
			m := twin(0x776f726473, l)
			if Words(ints(append(l, more...))) != Words(ints(append(m, more...))) {
				t.Errorf("lists of %d numbers with the same digest differ behind %d further ones", n, k)
			}
			m = twin(0x6c697374, l)
			if List(append(l, more...)) != List(append(m, more...)) {
				t.Errorf("lists of %d digests with the same digest differ behind %d further ones", n, k)
			}
			m = twin(0x6279746573, l)
			if Bytes(fromWords(append(l, more...))) != Bytes(fromWords(append(m, more...))) {
				t.Errorf("bytes of %d groups with the same digest differ behind %d further ones", n, k)
			}
		}
	}
}

// The digest ahead of the step for the length, which undoing that step shows, and the further elements are all that the digest of a longer list depends on.
func TestDigestsGoOn(t *testing.T) {
	r := newRand()
	for _, n := range edgeLengths {
		l, x := someDigests(r, n), someWord(r)
		size, next := uint64(n), uint64(n)+1
		ahead := back(Words(ints(l))) ^ size
		if Words(ints(append(l, x))) != Step(Step(ahead, x), next) {
			t.Errorf("the digest of %d numbers does not go on to that of %d", n, n+1)
		}
		ahead = back(List(l)) ^ size
		if List(append(l, x)) != Step(Step(ahead, x), next) {
			t.Errorf("the digest of %d digests does not go on to that of %d", n, n+1)
		}
	}
}

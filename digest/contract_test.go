package digest

import (
	"math"
	"math/big"
	"math/rand/v2"
	"slices"
	"testing"

	"chapman/api"
)

// These tests are for P1.1 (contract), for A5 and for P1 of the document.

// The model computes with numbers of any size and no code of the package, so that no mistake is made twice.
func modelStep(h, w uint64) uint64 {
	a := product(h^w, "d6e8feb86659fd93")
	quotient := new(big.Int).Div(new(big.Int).SetUint64(a), new(big.Int).Lsh(big.NewInt(1), 32))
	return product(a^quotient.Uint64(), "a0761d6478bd642f")
}

func product(x uint64, hex string) uint64 {
	factor, _ := new(big.Int).SetString(hex, 16)
	p := factor.Mul(factor, new(big.Int).SetUint64(x))
	return p.Mod(p, new(big.Int).Lsh(big.NewInt(1), 64)).Uint64()
}

// modelChain spells the seed out as the letters whose bytes it consists of.
func modelChain(seed string, words ...uint64) uint64 {
	var h uint64
	for i := range len(seed) {
		h = h*256 + uint64(seed[i])
	}
	for _, w := range words {
		h = modelStep(h, w)
	}
	return h
}

func modelWords(l []int) uint64 {
	var words []uint64
	for _, n := range l {
		words = append(words, uint64(n))
	}
	return modelChain("words", append(words, uint64(len(l)))...)
}

func modelList(l []uint64) uint64 {
	return modelChain("list", append(slices.Clone(l), uint64(len(l)))...)
}

func modelBytes(b []byte) uint64 {
	words := make([]uint64, (len(b)+7)/8)
	for i, x := range b {
		words[i/8] += uint64(x) << (8 * (i % 8))
	}
	return modelChain("bytes", append(words, uint64(len(b)))...)
}

var edgeWords = []uint64{0, 1, 2, 1<<31 - 1, 1 << 31, 1<<32 - 1, 1 << 32, 1<<63 - 1, 1 << 63, math.MaxUint64 - 1, math.MaxUint64}

var edgeNumbers = []int{0, 1, -1, 2, -2, math.MaxInt32, math.MinInt32, math.MaxInt, math.MinInt}

// edgeLengths lie around the ends of groups, and around those of several of them.
var edgeLengths = []int{0, 1, 2, 3, 7, 8, 9, 15, 16, 17, 31, 63, 64, 65, 127, 128, 129, 511, 512, 513, 520, 521, 1000}

func newRand() *rand.Rand { return rand.New(rand.NewPCG(1, 2)) }

// someWord returns an edge as often as another word.
func someWord(r *rand.Rand) uint64 {
	if r.IntN(2) == 0 {
		return edgeWords[r.IntN(len(edgeWords))]
	}
	return r.Uint64()
}

func someNumbers(r *rand.Rand, n int) []int {
	l := make([]int, n)
	for i := range l {
		l[i] = int(someWord(r))
	}
	return l
}

func someDigests(r *rand.Rand, n int) []uint64 {
	l := make([]uint64, n)
	for i := range l {
		l[i] = someWord(r)
	}
	return l
}

func someBytes(r *rand.Rand, n int) []byte {
	b := make([]byte, n)
	for i := range b {
		b[i] = byte(someWord(r))
	}
	return b
}

func counting(n int, at func(i int) int) []int {
	l := make([]int, n)
	for i := range l {
		l[i] = at(i)
	}
	return l
}

// The wanted digests were computed by another program.
func TestKnownDigests(t *testing.T) {
	squares := make([]uint64, 65)
	for i := range squares {
		squares[i] = uint64(i * i)
	}
	pattern := make([]byte, 1000)
	for i := range pattern {
		pattern[i] = byte(i % 251)
	}
	for _, c := range []struct {
		name      string
		got, want uint64
	}{
		{"Step of zeros", Step(0, 0), 0},
		{"Step of the word 1", Step(0, 1), 0x81c770e5147b60e5},
		{"Step of the digest 1", Step(1, 0), 0x81c770e5147b60e5},
		{"Step of the greatest digest", Step(math.MaxUint64, 0), 0xdc56a7c19bbdfcb6},
		{"Step of the highest bit", Step(1<<63, 1), 0xc568becd947b60e5},
		{"Step of a digest and itself", Step(12345, 12345), 0},
		{"Join of zeros", Join(0, 0), 0xd555991351f321bb},
		{"Join of 1, 2", Join(1, 2), 0x28e59b9a212bb733},
		{"Join of 2, 1", Join(2, 1), 0x87f0d876474016bf},
		{"Join of great digests", Join(math.MaxUint64, 1<<63), 0xb473274e39662ec1},
		{"Words of nothing", Words(nil), 0x61f9ec777a0c163e},
		{"Words of 0", Words([]int{0}), 0xd21f99db341f8f84},
		{"Words of 0, 0", Words([]int{0, 0}), 0x5a2825e087519d99},
		{"Words of -1", Words([]int{-1}), 0x7b07eb32320e3004},
		{"Words of the ends", Words([]int{math.MinInt, math.MaxInt}), 0x5a39cef10f0fe19f},
		{"Words of 1, 2, 3", Words([]int{1, 2, 3}), 0x4248e16ebf896fe5},
		{"Words of 3, 2, 1", Words([]int{3, 2, 1}), 0xd9bc47f62143472b},
		{"Words of 200 numbers", Words(counting(200, func(i int) int { return i - 100 })), 0x1ea0beedf7edfe5d},
		{"List of nothing", List(nil), 0x7352ec4a8e8a0d59},
		{"List of 0", List([]uint64{0}), 0x404e1145af04503b},
		{"List of 1, 2, 3", List([]uint64{1, 2, 3}), 0x53750888e52bff90},
		{"List of great digests", List([]uint64{math.MaxUint64, 1 << 63}), 0x6f59969ea2037157},
		{"List of 65 squares", List(squares), 0x4d98016aa05d2b6d},
		{"Bytes of nothing", Bytes(nil), 0xbdb8053cf9736f39},
		{"Bytes of a letter", Bytes([]byte("a")), 0xf622ec4c88e22bb7},
		{"Bytes of a zero byte", Bytes([]byte{0}), 0xdcce02531f423aac},
		{"Bytes short of a group", Bytes([]byte("station")), 0xf26a1936fe96e5f9},
		{"Bytes of a group", Bytes([]byte("stations")), 0xc0a386139ab4c1aa},
		{"Bytes beyond a group", Bytes([]byte("stations!")), 0xb4e90968722594d2},
		{"Bytes that are full", Bytes([]byte{255, 255, 255, 255, 255, 255, 255, 255}), 0x8421c41210a88c51},
		{"Bytes of 1000 bytes", Bytes(pattern), 0xce05e30b2f269e52},
	} {
		if c.got != c.want {
			t.Errorf("%s: %x instead of %x", c.name, c.got, c.want)
		}
	}
}

func TestExamples(t *testing.T) {
	if got, want := Words(nil), Step(0x776f726473, 0); got != want {
		t.Errorf("Words of no numbers: %x instead of %x", got, want)
	}
	if got, want := Bytes([]byte("a")), Step(Step(0x6279746573, 97), 1); got != want {
		t.Errorf(`Bytes of "a": %x instead of %x`, got, want)
	}
}

func TestStepAndJoinFollowTheModel(t *testing.T) {
	check := func(a, b uint64) {
		if got, want := Step(a, b), modelStep(a, b); got != want {
			t.Errorf("Step(%x, %x): %x instead of %x", a, b, got, want)
		}
		if got, want := Join(a, b), modelChain("node", a, b); got != want {
			t.Errorf("Join(%x, %x): %x instead of %x", a, b, got, want)
		}
	}
	for _, a := range edgeWords {
		for _, b := range edgeWords {
			check(a, b)
		}
	}
	r := newRand()
	for range 2000 {
		check(r.Uint64(), r.Uint64())
	}
}

func TestListsFollowTheModel(t *testing.T) {
	r := newRand()
	for _, n := range edgeLengths {
		if l := someNumbers(r, n); Words(l) != modelWords(l) {
			t.Errorf("Words of %d numbers: %x instead of %x", n, Words(l), modelWords(l))
		}
		if l := someDigests(r, n); List(l) != modelList(l) {
			t.Errorf("List of %d digests: %x instead of %x", n, List(l), modelList(l))
		}
		if b := someBytes(r, n); Bytes(b) != modelBytes(b) {
			t.Errorf("Bytes of %d bytes: %x instead of %x", n, Bytes(b), modelBytes(b))
		}
	}
	for _, n := range edgeNumbers {
		if l := []int{n}; Words(l) != modelWords(l) {
			t.Errorf("Words of %d: %x instead of %x", n, Words(l), modelWords(l))
		}
	}
	for n := range 40 {
		if b := someBytes(r, n); Bytes(b) != modelBytes(b) {
			t.Errorf("Bytes of %v: %x instead of %x", b, Bytes(b), modelBytes(b))
		}
	}
}

// The same words, as different things, have different digests: each kind has its seed.
func TestKindsHaveDigestsOfTheirOwn(t *testing.T) {
	w, l, b := Words([]int{1, 2}), List([]uint64{1, 2}), Bytes([]byte{1, 0, 0, 0, 0, 0, 0, 0, 2})
	j := Step(Join(1, 2), 2)
	if w == l || w == b || l == b || j == w || j == l {
		t.Errorf("digests of different kinds: %x, %x, %x, %x", w, l, b, j)
	}
}

func TestNilIsEmpty(t *testing.T) {
	if Words(nil) != Words([]int{}) || List(nil) != List([]uint64{}) || Bytes(nil) != Bytes([]byte{}) {
		t.Error("nil and an empty list have different digests")
	}
}

func TestBucket(t *testing.T) {
	for _, c := range []struct {
		d    uint64
		n    int
		want int
		e    api.Errno
	}{
		{1<<33 + 7, 2, 0, api.OK},
		{1 << 32, 2, 1, api.OK},
		{0, 1, 0, api.OK},
		{0, 1000000, 0, api.OK},
		{1<<32 - 1, 1000000, 0, api.OK},
		{5 << 32, 3, 2, api.OK},
		{999999 << 32, 1000000, 999999, api.OK},
		{1000000 << 32, 1000000, 0, api.OK},
		{math.MaxUint64, 1, 0, api.OK},
		{math.MaxUint64, 7, (1<<32 - 1) % 7, api.OK},
		{math.MaxUint64, 1000000, 967295, api.OK},
		{1 << 63, 999999, (1 << 31) % 999999, api.OK},
		{5 << 32, 0, 0, api.ErrArg},
		{5 << 32, -1, 0, api.ErrArg},
		{5 << 32, -3, 0, api.ErrArg},
		{5 << 32, 1000001, 0, api.ErrArg},
		{5 << 32, 1 << 32, 0, api.ErrArg},
		{5 << 32, 1<<32 + 3, 0, api.ErrArg},
		{5 << 32, math.MaxInt, 0, api.ErrArg},
		{5 << 32, math.MinInt, 0, api.ErrArg},
	} {
		if k, e := Bucket(c.d, c.n); k != c.want || e != c.e {
			t.Errorf("Bucket(%x, %d): %d, %d instead of %d, %d", c.d, c.n, k, e, c.want, c.e)
		}
	}
}

// What lies behind the end of an argument, in the same array, is not to be written either.
func TestArgumentsStayAsTheyAre(t *testing.T) {
	r := newRand()
	for _, n := range edgeLengths {
		numbers, digests, bytes := someNumbers(r, n+9), someDigests(r, n+9), someBytes(r, n+9)
		numbers0, digests0, bytes0 := slices.Clone(numbers), slices.Clone(digests), slices.Clone(bytes)
		Words(numbers[:n])
		List(digests[:n])
		Bytes(bytes[:n])
		if !slices.Equal(numbers, numbers0) || !slices.Equal(digests, digests0) || !slices.Equal(bytes, bytes0) {
			t.Errorf("an argument of the length %d was modified", n)
		}
	}
}

// What lies behind the end of an argument is no part of it.
func TestCapacityDoesNotTell(t *testing.T) {
	r := newRand()
	for _, n := range edgeLengths {
		numbers, digests, bytes := someNumbers(r, n+9), someDigests(r, n+9), someBytes(r, n+9)
		same := Words(numbers[:n]) == Words(slices.Clone(numbers[:n])) &&
			List(digests[:n]) == List(slices.Clone(digests[:n])) &&
			Bytes(bytes[:n]) == Bytes(slices.Clone(bytes[:n]))
		if !same {
			t.Errorf("what lies behind %d elements changes their digest", n)
		}
	}
}

func TestCallsAreIndependent(t *testing.T) {
	l, b := []int{1, 2, 3}, []byte("stations!")
	w, d := Words(l), Bytes(b)
	done := make(chan bool)
	for range 8 {
		go func() {
			same := true
			for range 200 {
				same = same && Words(l) == w && Bytes(b) == d
			}
			done <- same
		}()
	}
	for range 8 {
		if !<-done {
			t.Error("the digest of a list changed from call to call")
		}
	}
}

package runs_test

import (
	"bytes"
	"math"
	"math/big"
	"math/rand/v2"
	"slices"

	"chapman/api"
	"chapman/bitpack"
)

// The model computes with integers of any size and with the places where runs end, and uses no code of the package, so that no mistake is made twice.

const (
	least    = math.MinInt
	greatest = math.MaxInt
	mostList = 4096
)

func wide(n int) *big.Int { return big.NewInt(int64(n)) }

// narrow returns the integer of 64 bits, in two's complement, that is n modulo 2^64.
func narrow(n *big.Int) int {
	if n.IsInt64() {
		return int(n.Int64())
	}
	modulus := new(big.Int).Lsh(big.NewInt(1), 64)
	rest := new(big.Int).Mod(n, modulus)
	if !rest.IsInt64() {
		rest.Sub(rest, modulus)
	}
	return int(rest.Int64())
}

// modelRuns looks for the last element of each run.
func modelRuns(l []int) (values, lengths []int) {
	before := -1
	for last := range l {
		if last+1 < len(l) && l[last+1] == l[last] {
			continue
		}
		values = append(values, l[last])
		lengths = append(lengths, last-before)
		before = last
	}
	return values, lengths
}

func modelExpand(values, lengths []int) ([]int, api.Errno) {
	if len(values) != len(lengths) {
		return nil, api.ErrArg
	}
	sum := new(big.Int)
	for i, n := range lengths {
		if n <= 0 {
			return nil, api.ErrArg
		}
		if i+1 < len(values) && values[i] == values[i+1] {
			return nil, api.ErrArg
		}
		sum.Add(sum, wide(n))
	}
	if sum.Cmp(wide(mostList)) > 0 {
		return nil, api.ErrBig
	}
	var l []int
	for i, n := range lengths {
		l = append(l, many(n, values[i])...)
	}
	return l, api.OK
}

func modelDifferences(l []int) []int {
	d := make([]int, len(l))
	before, difference := new(big.Int), new(big.Int)
	for i, n := range l {
		d[i] = narrow(difference.Sub(wide(n), before))
		before.SetInt64(int64(n))
	}
	return d
}

func modelSums(d []int) []int {
	l := make([]int, len(d))
	sum := new(big.Int)
	for i, n := range d {
		l[i] = narrow(sum.Add(sum, wide(n)))
	}
	return l
}

// modelParts returns the lists that are packed for each form of l.
func modelParts(l []int) [4][][]int {
	d := modelDifferences(l)
	values, lengths := modelRuns(l)
	steps, stepLengths := modelRuns(d)
	return [4][][]int{{l}, {values, lengths}, {d}, {steps, stepLengths}}
}

func modelSizes(l []int) [4]int {
	var sizes [4]int
	for i, parts := range modelParts(l) {
		for _, part := range parts {
			sizes[i] += bitpack.Size(part)
		}
	}
	return sizes
}

func modelKind(l []int) int {
	s := modelSizes(l)
	switch {
	case s[0] <= s[1] && s[0] <= s[2] && s[0] <= s[3]:
		return 0
	case s[1] <= s[2] && s[1] <= s[3]:
		return 1
	case s[2] <= s[3]:
		return 2
	}
	return 3
}

// modelForm returns a form of a list of at most 4096 elements, behind the byte with its number.
func modelForm(number int, l []int) []byte {
	b := []byte{byte(number)}
	for _, part := range modelParts(l)[number] {
		packed, e := bitpack.Pack(part)
		if e != api.OK {
			panic("a part is not packed")
		}
		b = append(b, packed...)
	}
	return b
}

func modelEncode(l []int) []byte { return modelForm(modelKind(l), l) }

// modelDecode returns the list, and how many bytes its encoding has.
func modelDecode(b []byte) ([]int, int, api.Errno) {
	if len(b) < 1 {
		return nil, 0, api.ErrShort
	}
	if b[0] > 3 {
		return nil, 0, api.ErrForm
	}
	first, rest, e := bitpack.Unpack(b[1:])
	if e != api.OK {
		return nil, 0, e
	}
	l := first
	if b[0] == 1 || b[0] == 3 {
		var second []int
		second, rest, e = bitpack.Unpack(rest)
		if e != api.OK {
			return nil, 0, e
		}
		l, e = modelExpand(first, second)
		if e != api.OK {
			return nil, 0, api.ErrForm
		}
	}
	if b[0] >= 2 {
		l = modelSums(l)
	}
	used := len(b) - len(rest)
	if !bytes.Equal(modelEncode(l), b[:used]) {
		return nil, 0, api.ErrForm
	}
	return l, used, api.OK
}

func newRand() *rand.Rand { return rand.New(rand.NewPCG(4, 4)) }

// someNumber returns an integer; each size is as likely.
func someNumber(r *rand.Rand) int {
	return bitpack.Unzigzag(r.Uint64() >> r.IntN(64) >> r.IntN(2))
}

// noise returns n integers of about the same size, around any number.
func noise(r *rand.Rand, n int) []int {
	base, width := someNumber(r), r.IntN(65)
	l := make([]int, n)
	for i := range l {
		l[i] = base + int(r.Uint64()>>(64-width))
	}
	return l
}

// withRuns returns n integers, each of which is repeated up to most times.
func withRuns(r *rand.Rand, n, most int) []int {
	l := noise(r, n)
	for i := 0; i < n; {
		end := min(n, i+1+r.IntN(most))
		for j := i; j < end; j++ {
			l[j] = l[i]
		}
		i = end
	}
	return l
}

// someList returns n integers: noise, ones in runs, ones at steps, ones at steps that come in runs, or the latter with a few changes.
func someList(r *rand.Rand, n int) []int {
	switch r.IntN(5) {
	case 0:
		return noise(r, n)
	case 1:
		return withRuns(r, n, 1+r.IntN(n+3))
	case 2:
		return modelSums(noise(r, n))
	case 3:
		return modelSums(withRuns(r, n, 1+r.IntN(n+3)))
	}
	l := modelSums(withRuns(r, n, n+3))
	for range r.IntN(4) {
		if n > 0 {
			l[r.IntN(n)] = someNumber(r)
		}
	}
	return l
}

func many(n, element int) []int {
	l := make([]int, n)
	for i := range l {
		l[i] = element
	}
	return l
}

// steps returns n integers from first on, each greater by step than the one before it, modulo 2^64.
func steps(n, first, step int) []int {
	l := many(n, first)
	for i := range l {
		l[i] += i * step
	}
	return l
}

// edgeNumbers returns integers around some powers of two and at both ends.
func edgeNumbers() []int {
	l := []int{0, least, least + 1, greatest - 1, greatest}
	for _, width := range []int{0, 5, 6, 7, 13, 31, 62} {
		p := 1 << width
		l = append(l, p-1, p, p+1, -p+1, -p, -p-1)
	}
	return l
}

// edgeLists returns lists of no elements, of few of them at both ends of the integers, of runs alone, of equal differences alone, and of as many elements as can be encoded.
func edgeLists() [][]int {
	ls := [][]int{
		nil, {}, {0}, {7, 7, 7, 2}, {1, 2, 2, 1, 1}, {5, 3, 6}, {7, 7}, {1, 2, 3},
		{least, greatest}, {greatest, least}, {least, greatest, least}, {greatest, least, greatest}, {least, greatest, 0}, {least, least, greatest, greatest},
		slices.Concat(many(mostList-1, 7), []int{-1000000}), slices.Concat(many(mostList/2, least), many(mostList/2, greatest)),
		slices.Concat(steps(mostList/2, 0, 3), steps(mostList/2, 0, -3)), slices.Concat([]int{greatest}, steps(mostList-1, least, 1)),
	}
	for _, n := range edgeNumbers() {
		ls = append(ls, []int{n}, []int{n, n}, []int{n, n, n + 1}, []int{n - 1, n, n}, []int{n, -n}, []int{0, n}, []int{n, 0}, many(mostList, n), steps(mostList, n, -5), steps(mostList, 5, n))
		for _, count := range []int{3, 12, 64, 127, 128, 129, 300} {
			ls = append(ls, many(count, n), steps(count, n, 1), steps(count, 0, n), steps(count, n, n), append(many(count, n), 900), append(steps(count, 1000, n), 0))
		}
	}
	return ls
}

// eachLonger calls f with each sequence that begins with l and has up to n further elements.
func eachLonger[T any](l, alphabet []T, n int, f func(l []T)) {
	f(l)
	if n == 0 {
		return
	}
	for _, x := range alphabet {
		eachLonger(append(slices.Clone(l), x), alphabet, n-1, f)
	}
}

// eachList calls f with all edges, all short lists of a few numbers, and many other lists of at most 4096 elements.
func eachList(f func(l []int)) {
	for _, l := range edgeLists() {
		f(l)
	}
	eachLonger(nil, []int{least, 0, 1, 2, greatest}, 5, f)
	eachLonger(nil, []int{-1, 0, 100}, 7, f)
	r := newRand()
	for range 4000 {
		f(someList(r, r.IntN(30)))
	}
	for range 200 {
		f(someList(r, r.IntN(400)))
	}
	for _, n := range []int{127, 128, 129, 255, 256, mostList - 1, mostList} {
		for range 5 {
			f(someList(r, n))
		}
	}
}

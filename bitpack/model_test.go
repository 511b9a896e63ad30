package bitpack_test

import (
	"math"
	"math/big"
	"math/rand/v2"
	"slices"
	"strconv"
	"strings"

	"chapman/api"
)

// The model computes with integers of any size and with texts of binary digits, and with no code of the package, so that no mistake is made twice.

const (
	least    = math.MinInt
	greatest = math.MaxInt
	mostList = 4096
)

func wide(n int) *big.Int { return big.NewInt(int64(n)) }

func modelZigzag(n int) uint64 {
	code := new(big.Int).Add(wide(n), wide(n))
	if n < 0 {
		code.Neg(code).Sub(code, big.NewInt(1))
	}
	return code.Uint64()
}

func modelUnzigzag(u uint64) int {
	half := int64(u / 2)
	if u%2 == 1 {
		return int(-half - 1)
	}
	return int(half)
}

// modelVarint cuts the binary digits of u into groups of 7, from the lowest ones on.
func modelVarint(u uint64) []byte {
	digits := strconv.FormatUint(u, 2)
	var code []byte
	for {
		cut := max(0, len(digits)-7)
		group, _ := strconv.ParseUint(digits[cut:], 2, 7)
		digits = digits[:cut]
		if digits == "" {
			return append(code, byte(group))
		}
		code = append(code, byte(group)+128)
	}
}

// modelRead returns the number and how many bytes its code has.
func modelRead(b []byte) (uint64, int, api.Errno) {
	last := slices.IndexFunc(b, func(x byte) bool { return x < 128 })
	if last < 0 && len(b) < 10 {
		return 0, 0, api.ErrShort
	}
	if last < 0 || last > 9 {
		return 0, 0, api.ErrForm
	}
	number := new(big.Int)
	for i := last; i >= 0; i-- {
		number.Lsh(number, 7).Add(number, wide(int(b[i])%128))
	}
	if !number.IsUint64() || !slices.Equal(modelVarint(number.Uint64()), b[:last+1]) {
		return 0, 0, api.ErrForm
	}
	return number.Uint64(), last + 1, api.OK
}

func modelPack(l []int) []byte {
	b := modelVarint(uint64(len(l)))
	if len(l) == 0 {
		return b
	}
	base := slices.Min(l)
	width := new(big.Int).Sub(wide(slices.Max(l)), wide(base)).BitLen()
	b = append(b, modelVarint(modelZigzag(base))...)
	b = append(b, byte(width))
	return append(b, modelDifferences(l, base, width)...)
}

// modelDifferences writes all binary digits into one text, the first difference at its end, and cuts it into bytes from the end on.
func modelDifferences(l []int, base, width int) []byte {
	var digits []string
	for _, n := range slices.Backward(l) {
		d := new(big.Int).Sub(wide(n), wide(base))
		text := strings.Repeat("0", 64) + d.Text(2)
		digits = append(digits, text[len(text)-width:])
	}
	text := strings.Join(digits, "")
	text = strings.Repeat("0", (8-len(text)%8)%8) + text
	var b []byte
	for end := len(text); end > 0; end -= 8 {
		x, _ := strconv.ParseUint(text[end-8:end], 2, 8)
		b = append(b, byte(x))
	}
	return b
}

// modelUnpack returns the list and how many bytes its packed form has.
func modelUnpack(b []byte) ([]int, int, api.Errno) {
	n, at, e := modelRead(b)
	if e != api.OK {
		return nil, 0, e
	}
	if n > mostList {
		return nil, 0, api.ErrForm
	}
	if n == 0 {
		return nil, at, api.OK
	}
	code, size, e := modelRead(b[at:])
	if e != api.OK {
		return nil, 0, e
	}
	at += size
	if len(b) == at {
		return nil, 0, api.ErrShort
	}
	width := int(b[at])
	at++
	if width > 64 {
		return nil, 0, api.ErrForm
	}
	size = (int(n)*width + 7) / 8
	if len(b) < at+size {
		return nil, 0, api.ErrShort
	}
	l, ok := modelElements(b[at:at+size], int(n), modelUnzigzag(code), width)
	if !ok || !slices.Equal(modelPack(l), b[:at+size]) {
		return nil, 0, api.ErrForm
	}
	return l, at + size, api.OK
}

// modelElements takes the bytes for one number, the first byte at its end, and divides it by a power of two for each element.
func modelElements(b []byte, n, base, width int) ([]int, bool) {
	reversed := slices.Clone(b)
	slices.Reverse(reversed)
	number := new(big.Int).SetBytes(reversed)
	power := new(big.Int).Lsh(big.NewInt(1), uint(width))
	var l []int
	for range n {
		d := new(big.Int)
		number.DivMod(number, power, d)
		if d.Add(d, wide(base)); !d.IsInt64() {
			return nil, false
		}
		l = append(l, int(d.Int64()))
	}
	return l, true
}

func newRand() *rand.Rand { return rand.New(rand.NewPCG(3, 3)) }

// someCode returns an unsigned number; each width is as likely.
func someCode(r *rand.Rand) uint64 {
	return r.Uint64() >> r.IntN(64) >> r.IntN(2)
}

// someNumber returns an integer; each size is as likely.
func someNumber(r *rand.Rand) int {
	return modelUnzigzag(someCode(r))
}

// someList returns n integers, whose base and whose width may be any.
func someList(r *rand.Rand, n int) []int {
	base, width := someNumber(r), r.IntN(65)
	l := make([]int, n)
	for i := range l {
		// Half of the differences of 64 bits wrap around, so that the list is around the base and not above it.
		l[i] = base + int(r.Uint64()>>(64-width))
	}
	return l
}

// edgeCodes returns the numbers where the width changes, and those beside them.
func edgeCodes() []uint64 {
	l := []uint64{0, math.MaxUint64}
	for i := range 64 {
		p := uint64(1) << i
		l = append(l, p-1, p, p+1)
	}
	return l
}

// edgeNumbers returns integers around the powers of two and at both ends.
func edgeNumbers() []int {
	var l []int
	for _, u := range edgeCodes() {
		l = append(l, modelUnzigzag(u), int(u))
	}
	return l
}

// eachCode calls f with all edges, and with many other unsigned numbers.
func eachCode(f func(u uint64)) {
	for _, u := range edgeCodes() {
		f(u)
	}
	for u := range uint64(40000) {
		f(u)
	}
	r := newRand()
	for range 20000 {
		f(someCode(r))
	}
}

// eachNumber calls f with all edges, and with many other integers.
func eachNumber(f func(n int)) {
	for _, n := range edgeNumbers() {
		f(n)
	}
	eachCode(func(u uint64) { f(modelUnzigzag(u)) })
}

// edgeLists returns lists of each width, at both ends of the integers, and of all lengths at which a byte begins.
func edgeLists() [][]int {
	ls := [][]int{
		nil, {}, {0}, {-1}, {1}, {7, 7}, {5, 3, 6}, {-1, 0}, {0, -1}, {63}, {-64}, {64}, {-65},
		{least}, {greatest}, {least, greatest}, {greatest, least}, {least, least}, {greatest, greatest}, {least, greatest, least}, {greatest, least, greatest},
		{least, 0}, {least, -1}, {-1, greatest}, {0, greatest}, {1, greatest}, {least + 1, greatest}, {least, greatest - 1}, {least, 0, greatest},
		many(mostList, 0), many(mostList, least), many(mostList, -1), append(many(mostList-1, greatest), least),
	}
	for width := range 65 {
		top := int(uint64(math.MaxUint64) >> (64 - width))
		half := top - int(uint64(top)/2)
		for _, base := range []int{0, 1, -1, -5, least, greatest - top} {
			if base > 0 && base+top < base || width == 64 && base != least {
				continue
			}
			ls = append(ls, []int{base, base + top}, []int{base + top, base}, []int{base, base + half}, []int{base + half, base, base + top})
		}
		for n := range 18 {
			ls = append(ls, alternating(n, least, least+top), alternating(n, greatest, greatest-top))
		}
	}
	return ls
}

func many(n, element int) []int {
	l := make([]int, n)
	for i := range l {
		l[i] = element
	}
	return l
}

func alternating(n, even, odd int) []int {
	l := many(n, even)
	for i := 1; i < n; i += 2 {
		l[i] = odd
	}
	return l
}

// eachList calls f with all edges, and with many other lists of at most 4096 elements.
func eachList(f func(l []int)) {
	for _, l := range edgeLists() {
		f(l)
	}
	r := newRand()
	for range 3000 {
		f(someList(r, r.IntN(20)))
	}
	for range 40 {
		f(someList(r, r.IntN(400)))
	}
	for _, n := range []int{127, 128, 129, 255, 256, mostList - 1, mostList} {
		f(someList(r, n))
	}
}

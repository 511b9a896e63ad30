package decimal_test

import (
	"math"
	"math/big"
	"math/rand/v2"
	"regexp"
	"strings"

	"chapman/api"
)

// The model computes with numbers of any size and no code of the package, so that no mistake is made twice.

const (
	unit    = 1000000
	most    = 1000000000000000
	mostSum = 4000000000000000000
)

var (
	canonicalText = regexp.MustCompile(`^-?(0|[1-9][0-9]*)(\.[0-9]{0,5}[1-9])?$`)
	million       = big.NewInt(unit)
)

func wide(n int) *big.Int { return big.NewInt(int64(n)) }

// modelUnit returns how many millionths a unit of the last place of a scale has.
func modelUnit(scale int) int {
	n := unit
	for range scale {
		n /= 10
	}
	return n
}

func modelFits(n, scale int) bool {
	if scale < 0 || scale > 6 {
		return false
	}
	return new(big.Int).Rem(wide(n), wide(modelUnit(scale))).Sign() == 0
}

func modelText(n int) string {
	s := new(big.Rat).SetFrac(wide(n), million).FloatString(6)
	return strings.TrimSuffix(strings.TrimRight(s, "0"), ".")
}

func modelParse(s string, scale int) (int, api.Errno) {
	if scale < 0 || scale > 6 {
		return 0, api.ErrArg
	}
	if !canonicalText.MatchString(s) || s == "-0" {
		return 0, api.ErrForm
	}
	if point := strings.IndexByte(s, '.'); point >= 0 && len(s)-point-1 > scale {
		return 0, api.ErrForm
	}
	r, _ := new(big.Rat).SetString(s)
	return modelValid(r.Mul(r, new(big.Rat).SetInt(million)).Num())
}

// modelValid returns what an operation returns whose exact result is n millionths.
func modelValid(n *big.Int) (int, api.Errno) {
	if n.CmpAbs(wide(most)) > 0 {
		return 0, api.ErrBig
	}
	return int(n.Int64()), api.OK
}

// modelRound returns a/b, rounded to the nearest integer, and in the middle to the even one.
func modelRound(a, b *big.Int) *big.Int {
	twice := new(big.Rat).SetFrac(new(big.Int).Lsh(a, 1), b)
	// The greatest integer that is not above a/b + 1/2 is the nearest one, and in the middle the one above.
	above := twice.Add(twice, big.NewRat(1, 1))
	n := new(big.Int).Div(above.Num(), new(big.Int).Lsh(above.Denom(), 1))
	middle := above.IsInt() && above.Num().Bit(0) == 0
	if middle && n.Bit(0) == 1 {
		n.Sub(n, big.NewInt(1))
	}
	return n
}

func tooBig(a, b int) bool {
	return a < -most || a > most || b < -most || b > most
}

func modelAdd(a, b int) (int, api.Errno) {
	if tooBig(a, b) {
		return 0, api.ErrBig
	}
	return modelValid(new(big.Int).Add(wide(a), wide(b)))
}

func modelSub(a, b int) (int, api.Errno) {
	if tooBig(a, b) {
		return 0, api.ErrBig
	}
	return modelValid(new(big.Int).Sub(wide(a), wide(b)))
}

func modelMul(a, b int) (int, api.Errno) {
	if tooBig(a, b) {
		return 0, api.ErrBig
	}
	return modelValid(modelRound(new(big.Int).Mul(wide(a), wide(b)), million))
}

func modelDiv(a, b int) (int, api.Errno) {
	if tooBig(a, b) {
		return 0, api.ErrBig
	}
	if b == 0 {
		return 0, api.ErrZero
	}
	return modelValid(modelRound(new(big.Int).Mul(wide(a), million), wide(b)))
}

func modelTrunc(n, scale int) int {
	if scale < 0 || scale > 6 {
		return n
	}
	u := wide(modelUnit(scale))
	places := new(big.Int).Quo(wide(n), u)
	return int(places.Mul(places, u).Int64())
}

func modelSum(l []int) (int, api.Errno) {
	sum := new(big.Int)
	for _, n := range l {
		if n < -mostSum || n > mostSum {
			return 0, api.ErrBig
		}
		sum.Add(sum, wide(n))
	}
	if sum.CmpAbs(wide(mostSum)) > 0 {
		return 0, api.ErrBig
	}
	return int(sum.Int64()), api.OK
}

var edgeScales = []int{math.MinInt, -7, -2, -1, 0, 1, 2, 3, 4, 5, 6, 7, 8, 13, 1 << 32, math.MaxInt}

// edgeNumbers returns the numbers around those where something changes, with both signs.
func edgeNumbers() []int {
	l := []int{math.MaxInt, math.MinInt, math.MinInt + 1, math.MinInt + 2}
	for _, n := range []int{0, 3, 7, 9, 250000, 500000, 1500000, 2500000, 3500000, 123456789, 999999999999, 31622776601, 666666666666667,
		1 << 31, 1 << 32, 1 << 53, 1 << 62, 1 << 62 / unit, most / unit, most / 2, most, 2 * most, mostSum / 2, mostSum, math.MaxInt / unit * unit} {
		l = append(l, n-1, n, n+1, 1-n, -n, -n-1)
	}
	for p := 1; p <= mostSum/10; p *= 10 {
		l = append(l, p-1, p, p+1, 5*p/10, 1-p, -p, -p-1, -5*p/10)
	}
	return l
}

func validNumbers(l []int) []int {
	var valid []int
	for _, n := range l {
		if !tooBig(n, 0) {
			valid = append(valid, n)
		}
	}
	return valid
}

func newRand() *rand.Rand { return rand.New(rand.NewPCG(2, 2)) }

// someNumber returns a number of up to so many bits: each size and each number of decimal places is as likely.
func someNumber(r *rand.Rand, bits int) int {
	n := int(r.Uint64() >> (64 - 1 - r.IntN(bits)))
	if r.IntN(2) == 0 {
		u := modelUnit(r.IntN(7))
		n = n / u * u
	}
	if r.IntN(2) == 0 {
		return -n
	}
	return n
}

// someValid returns a number from -most to most.
func someValid(r *rand.Rand) int {
	for {
		if n := someNumber(r, 50); !tooBig(n, 0) {
			return n
		}
	}
}

// eachPair calls f with all pairs of valid edges, and with many others.
func eachPair(f func(a, b int)) {
	edges := validNumbers(edgeNumbers())
	for _, a := range edges {
		for _, b := range edges {
			f(a, b)
		}
	}
	r := newRand()
	for range 20000 {
		f(someValid(r), someValid(r))
		f(someNumber(r, 24), someNumber(r, 24))
	}
}

// eachNumber calls f with all edges, and with many other numbers.
func eachNumber(f func(n int)) {
	for _, n := range edgeNumbers() {
		f(n)
	}
	r := newRand()
	for range 5000 {
		f(someNumber(r, 63))
		f(someValid(r))
	}
}

// someFactors returns two valid numbers with a product, in millionths of millionths, of nearly p.
func someFactors(r *rand.Rand, p *big.Int) (int, int) {
	for {
		a := someValid(r)
		if a == 0 {
			continue
		}
		q := new(big.Int).Quo(p, wide(a))
		if q.CmpAbs(wide(most)) <= 0 {
			return a, int(q.Int64())
		}
	}
}

package decimal_test

import (
	"math"
	"math/big"
	"slices"
	"strings"
	"testing"

	"chapman/api"
	"chapman/decimal"
)

// These tests are for P2.1 (contract), for B6 and for P1 of the document.

type operation = func(a, b int) (int, api.Errno)

type named struct {
	name       string
	got, model operation
}

var operations = []named{
	{"Add", decimal.Add, modelAdd},
	{"Sub", decimal.Sub, modelSub},
	{"Mul", decimal.Mul, modelMul},
	{"Div", decimal.Div, modelDiv},
}

func checkOperations(t *testing.T, a, b int) {
	t.Helper()
	for _, op := range operations {
		n, e := op.got(a, b)
		want, wantE := op.model(a, b)
		if n != want || e != wantE {
			t.Errorf("%s(%d, %d): %d, %d instead of %d, %d", op.name, a, b, n, e, want, wantE)
		}
	}
}

func checkParse(t *testing.T, s string, scale int) {
	t.Helper()
	n, e := decimal.Parse(s, scale)
	want, wantE := modelParse(s, scale)
	if n != want || e != wantE {
		t.Errorf("Parse(%q, %d): %d, %d instead of %d, %d", s, scale, n, e, want, wantE)
	}
}

func checkSum(t *testing.T, l []int) {
	t.Helper()
	n, e := decimal.Sum(l)
	want, wantE := modelSum(l)
	if n != want || e != wantE {
		t.Errorf("Sum of %d elements %v: %d, %d instead of %d, %d", len(l), l[:min(len(l), 8)], n, e, want, wantE)
	}
}

func TestExamples(t *testing.T) {
	for n, want := range map[int]string{-500000: "-0.5", 12000000: "12", 1: "0.000001"} {
		if s := decimal.Text(n); s != want {
			t.Errorf("Text(%d): %s instead of %s", n, s, want)
		}
	}
	for s, scale := range map[string]int{"0.10": 2, "01": 0, "1.5": 0} {
		if n, e := decimal.Parse(s, scale); n != 0 || e != api.ErrForm {
			t.Errorf("Parse(%q, %d): %d, %d instead of ErrForm", s, scale, n, e)
		}
	}
	for _, c := range []struct {
		name    string
		op      operation
		a, b, n int
	}{
		{"Mul", decimal.Mul, 1500000, 1, 2},
		{"Mul", decimal.Mul, 2500000, 1, 2},
		{"Div", decimal.Div, 1000000, 3000000, 333333},
	} {
		if n, e := c.op(c.a, c.b); n != c.n || e != api.OK {
			t.Errorf("%s(%d, %d): %d, %d instead of %d", c.name, c.a, c.b, n, e, c.n)
		}
	}
	if n := decimal.Trunc(-1999999, 0); n != -1000000 {
		t.Errorf("Trunc(-1999999, 0): %d", n)
	}
}

func TestValidAndFits(t *testing.T) {
	eachNumber(func(n int) {
		if got, want := decimal.Valid(n), n >= -most && n <= most; got != want {
			t.Errorf("Valid(%d): %t", n, got)
		}
		for _, scale := range edgeScales {
			if got, want := decimal.Fits(n, scale), modelFits(n, scale); got != want {
				t.Errorf("Fits(%d, %d): %t", n, scale, got)
			}
		}
	})
}

func TestTextFollowsTheModel(t *testing.T) {
	check := func(n int) {
		if got, want := decimal.Text(n), modelText(n); got != want {
			t.Errorf("Text(%d): %q instead of %q", n, got, want)
		}
	}
	eachNumber(check)
	for n := -1100; n <= 1100; n++ {
		check(n)
		check(n * 1000)
	}
}

func TestTexts(t *testing.T) {
	for n, want := range map[int]string{
		0: "0", -1: "-0.000001", 10: "0.00001", 100: "0.0001", 1000: "0.001", 10000: "0.01", 100000: "0.1", 1000000: "1", 10000000: "10",
		-10000000: "-10", 101010: "0.10101", 1010101: "1.010101", -1050000: "-1.05", 999999: "0.999999", 1000001: "1.000001",
		most: "1000000000", -most: "-1000000000", most + 1: "1000000000.000001",
		math.MaxInt: "9223372036854.775807", math.MinInt: "-9223372036854.775808",
	} {
		if got := decimal.Text(n); got != want {
			t.Errorf("Text(%d): %q instead of %q", n, got, want)
		}
	}
}

func TestParse(t *testing.T) {
	for _, c := range []struct {
		s     string
		scale int
		n     int
		e     api.Errno
	}{
		{"0", 0, 0, api.OK}, {"0", 6, 0, api.OK}, {"7", 0, 7000000, api.OK}, {"-7", 3, -7000000, api.OK}, {"10", 0, 10000000, api.OK},
		{"0.1", 1, 100000, api.OK}, {"0.01", 2, 10000, api.OK}, {"0.001", 3, 1000, api.OK}, {"0.0001", 4, 100, api.OK}, {"0.00001", 5, 10, api.OK}, {"0.000001", 6, 1, api.OK},
		{"-0.5", 1, -500000, api.OK}, {"-0.000009", 6, -9, api.OK}, {"100.05", 2, 100050000, api.OK}, {"9.999999", 6, 9999999, api.OK},
		{"999999999.999999", 6, most - 1, api.OK}, {"1000000000", 0, most, api.OK}, {"-1000000000", 6, -most, api.OK},
		{"0.1", 0, 0, api.ErrForm}, {"0.01", 1, 0, api.ErrForm}, {"0.001", 2, 0, api.ErrForm}, {"0.0001", 3, 0, api.ErrForm}, {"0.00001", 4, 0, api.ErrForm}, {"0.000001", 5, 0, api.ErrForm}, {"0.0000001", 6, 0, api.ErrForm}, {"0.1234567", 6, 0, api.ErrForm},
		{"", 0, 0, api.ErrForm}, {"-", 6, 0, api.ErrForm}, {".", 6, 0, api.ErrForm}, {"-.", 6, 0, api.ErrForm}, {"-0", 6, 0, api.ErrForm}, {"-0.0", 6, 0, api.ErrForm}, {"-00", 6, 0, api.ErrForm}, {"00", 6, 0, api.ErrForm}, {"00.5", 6, 0, api.ErrForm}, {"-01", 6, 0, api.ErrForm},
		{"1.", 6, 0, api.ErrForm}, {".1", 6, 0, api.ErrForm}, {"-.1", 6, 0, api.ErrForm}, {"1..1", 6, 0, api.ErrForm}, {"1.1.1", 6, 0, api.ErrForm}, {"1.0", 6, 0, api.ErrForm}, {"1.10", 6, 0, api.ErrForm}, {"1.000000", 6, 0, api.ErrForm}, {"0.0", 6, 0, api.ErrForm},
		{"1.-1", 6, 0, api.ErrForm}, {"1-", 6, 0, api.ErrForm}, {"1-1", 6, 0, api.ErrForm}, {"--1", 6, 0, api.ErrForm}, {"+1", 6, 0, api.ErrForm}, {"-+1", 6, 0, api.ErrForm}, {"1.+1", 6, 0, api.ErrForm},
		{" 1", 6, 0, api.ErrForm}, {"1 ", 6, 0, api.ErrForm}, {"1 0", 6, 0, api.ErrForm}, {"1\n", 6, 0, api.ErrForm}, {"1\x00", 6, 0, api.ErrForm}, {"- 1", 6, 0, api.ErrForm}, {"1. 1", 6, 0, api.ErrForm},
		{"1,5", 6, 0, api.ErrForm}, {"1_0", 6, 0, api.ErrForm}, {"1.1_1", 6, 0, api.ErrForm}, {"1e3", 6, 0, api.ErrForm}, {"0x1", 6, 0, api.ErrForm}, {"1a", 6, 0, api.ErrForm}, {"1.a", 6, 0, api.ErrForm}, {"1.a1", 6, 0, api.ErrForm}, {"/1", 6, 0, api.ErrForm}, {"1:", 6, 0, api.ErrForm}, {"1.:1", 6, 0, api.ErrForm}, {"1./1", 6, 0, api.ErrForm}, {"1/2", 6, 0, api.ErrForm}, {"Inf", 6, 0, api.ErrForm}, {"NaN", 6, 0, api.ErrForm},
		{"\u0661", 6, 0, api.ErrForm}, {"\u22121", 6, 0, api.ErrForm}, {"\uff11", 6, 0, api.ErrForm}, {"\xff", 6, 0, api.ErrForm}, {"1\xb1", 6, 0, api.ErrForm},
		{"1000000000.000001", 6, 0, api.ErrBig}, {"-1000000000.000001", 6, 0, api.ErrBig}, {"1000000001", 0, 0, api.ErrBig}, {"-1000000001", 0, 0, api.ErrBig}, {"9999999999", 0, 0, api.ErrBig}, {"10000000000", 0, 0, api.ErrBig}, {"9223372036854.775807", 6, 0, api.ErrBig}, {"9223372036854775808", 6, 0, api.ErrBig},
		// Modulo 2^64, these numbers or their millionths would be 0 or 1.
		{"18446744073709551616", 0, 0, api.ErrBig}, {"18446744073709551617", 0, 0, api.ErrBig}, {"288230376151711744", 0, 0, api.ErrBig}, {"18446744073709.551616", 6, 0, api.ErrBig}, {"18446744073709.551617", 6, 0, api.ErrBig},
		{"10000000000.01", 1, 0, api.ErrForm}, {"10000000000.10", 6, 0, api.ErrForm}, {"010000000000", 0, 0, api.ErrForm}, {"10000000000x", 0, 0, api.ErrForm}, {"99999999999999999999.", 6, 0, api.ErrForm},
		{"1", -1, 0, api.ErrArg}, {"1", 7, 0, api.ErrArg}, {"1", math.MinInt, 0, api.ErrArg}, {"1", math.MaxInt, 0, api.ErrArg}, {"1", 1 << 32, 0, api.ErrArg}, {"", -1, 0, api.ErrArg}, {"x", 7, 0, api.ErrArg}, {"10000000000", 7, 0, api.ErrArg}, {"0.1234567", 7, 0, api.ErrArg},
	} {
		if n, e := decimal.Parse(c.s, c.scale); n != c.n || e != c.e {
			t.Errorf("Parse(%q, %d): %d, %d instead of %d, %d", c.s, c.scale, n, e, c.n, c.e)
		}
		checkParse(t, c.s, c.scale)
	}
}

// eachText calls f with each text of up to n of these characters.
func eachText(characters string, n int, f func(s string)) {
	texts := []string{""}
	for range n + 1 {
		var longer []string
		for _, s := range texts {
			f(s)
			for _, c := range characters {
				longer = append(longer, s+string(c))
			}
		}
		texts = longer
	}
}

func TestParseOfShortTexts(t *testing.T) {
	eachText("-.0193 ", 5, func(s string) {
		for _, scale := range []int{0, 1, 2, 6} {
			checkParse(t, s, scale)
		}
	})
	eachText("-.05", 8, func(s string) {
		checkParse(t, s, 3)
	})
	for c := range 256 {
		for _, s := range []string{string([]byte{byte(c)}), string([]byte{'1', byte(c)}), string([]byte{'1', '.', byte(c)}), string([]byte{byte(c), '1'}), string([]byte{'1', '.', byte(c), '1'})} {
			checkParse(t, s, 6)
		}
	}
}

func TestParseOfChangedTexts(t *testing.T) {
	r := newRand()
	for range 5000 {
		s := modelText(someNumber(r, 63))
		i, j := r.IntN(len(s)+1), r.IntN(len(s))
		c := string("-.0123456789 e+"[r.IntN(15)])
		for scale := -1; scale <= 7; scale++ {
			checkParse(t, s, scale)
			checkParse(t, s[:i]+c+s[i:], scale)
			checkParse(t, s[:j]+s[j+1:], scale)
			checkParse(t, s[:j]+c+s[j+1:], scale)
		}
	}
}

func TestParseOfLongTexts(t *testing.T) {
	zeros, nines := strings.Repeat("0", 300000), strings.Repeat("9", 300000)
	for s, want := range map[string]api.Errno{
		nines: api.ErrBig, "-" + nines: api.ErrBig, nines + ".5": api.ErrBig, "1" + zeros: api.ErrBig,
		zeros: api.ErrForm, "-" + zeros: api.ErrForm, zeros + "1": api.ErrForm, nines + ".": api.ErrForm, nines + "-": api.ErrForm, "0." + nines: api.ErrForm, "0." + zeros + "1": api.ErrForm, nines + ".10": api.ErrForm, nines + "." + nines: api.ErrForm,
	} {
		if n, e := decimal.Parse(s, 6); n != 0 || e != want {
			t.Errorf("Parse of %d bytes, %q ahead: %d, %d instead of %d", len(s), s[:4], n, e, want)
		}
	}
}

func TestOperationsFollowTheModel(t *testing.T) {
	edges := edgeNumbers()
	for _, a := range edges {
		for _, b := range edges {
			checkOperations(t, a, b)
		}
	}
	r := newRand()
	for range 20000 {
		checkOperations(t, someNumber(r, 63), someNumber(r, 63))
		checkOperations(t, someValid(r), someValid(r))
		checkOperations(t, someNumber(r, 24), someNumber(r, 24))
	}
}

// Products and quotients around the greatest number, and around what 64 bits hold.
func TestOperationsAroundTheirLimits(t *testing.T) {
	r := newRand()
	greatest := new(big.Int).Mul(wide(most), million)
	word := new(big.Int).Lsh(million, 64)
	for _, limit := range []*big.Int{greatest, word, new(big.Int).Lsh(big.NewInt(1), 63), new(big.Int).Lsh(big.NewInt(1), 64), new(big.Int).Lsh(million, 63), new(big.Int).Lsh(million, 65)} {
		for range 2000 {
			a, b := someFactors(r, limit)
			for d := -1; d <= 1; d++ {
				checkOperations(t, a, b+d)
			}
		}
	}
	for range 20000 {
		a := most - r.IntN(1000)
		b := unit + r.IntN(2001) - 1000
		checkOperations(t, a, b)
		checkOperations(t, -a, b)
		checkOperations(t, a/2, b/2)
	}
}

func TestOperations(t *testing.T) {
	for _, c := range []struct {
		name string
		op   operation
		a, b int
		n    int
		e    api.Errno
	}{
		{"Add", decimal.Add, most, 0, most, api.OK},
		{"Add", decimal.Add, most, 1, 0, api.ErrBig},
		{"Add", decimal.Add, -most, -1, 0, api.ErrBig},
		{"Add", decimal.Add, most + 1, -1, 0, api.ErrBig},
		{"Add", decimal.Add, -1, most + 1, 0, api.ErrBig},
		{"Add", decimal.Add, math.MinInt, math.MinInt, 0, api.ErrBig},
		{"Add", decimal.Add, math.MinInt, math.MaxInt, 0, api.ErrBig},
		{"Sub", decimal.Sub, 0, -most, most, api.OK},
		{"Sub", decimal.Sub, -1, most, 0, api.ErrBig},
		{"Sub", decimal.Sub, 1, most + 1, 0, api.ErrBig},
		{"Sub", decimal.Sub, math.MinInt, math.MinInt, 0, api.ErrBig},
		{"Sub", decimal.Sub, 0, math.MinInt, 0, api.ErrBig},
		{"Mul", decimal.Mul, -500000, 1, 0, api.OK},
		{"Mul", decimal.Mul, -500001, 1, -1, api.OK},
		{"Mul", decimal.Mul, -1500000, 1, -2, api.OK},
		{"Mul", decimal.Mul, -2500000, -1, 2, api.OK},
		{"Mul", decimal.Mul, 500000, 3, 2, api.OK},
		{"Mul", decimal.Mul, 1, 1, 0, api.OK},
		{"Mul", decimal.Mul, 0, most + 1, 0, api.ErrBig},
		{"Mul", decimal.Mul, math.MinInt, 0, 0, api.ErrBig},
		{"Mul", decimal.Mul, most, most, 0, api.ErrBig},
		// The exact product is half a millionth above the greatest number; 1 below it; and 2 above it.
		{"Mul", decimal.Mul, 1500000, 666666666666667, most, api.OK},
		{"Mul", decimal.Mul, -1500000, 666666666666667, -most, api.OK},
		{"Mul", decimal.Mul, 1500000, 666666666666666, most - 1, api.OK},
		{"Mul", decimal.Mul, 1500000, 666666666666668, 0, api.ErrBig},
		// The exact product is above the greatest number by less than half a millionth, and by more.
		{"Mul", decimal.Mul, 1000001, 999999000001000, most, api.OK},
		{"Mul", decimal.Mul, 1000001, -999999000001000, -most, api.OK},
		{"Mul", decimal.Mul, 1000008, 999992000064000, 0, api.ErrBig},
		// Modulo 2^64, these products would be 0: that of the numbers of millionths, that in millionths, and those when they are rounded.
		{"Mul", decimal.Mul, 1 << 32, 1 << 32, 18446744073710, api.OK},
		{"Mul", decimal.Mul, 1 << 45, 1 << 25 * 15625, 0, api.ErrBig},
		{"Mul", decimal.Mul, 18446746892, 999999847220192, 0, api.ErrBig},
		{"Mul", decimal.Mul, 18446750918, -999999628970409, 0, api.ErrBig},
		{"Div", decimal.Div, 3, 2000000, 2, api.OK},
		{"Div", decimal.Div, 1, 2000000, 0, api.OK},
		{"Div", decimal.Div, -3, 2000000, -2, api.OK},
		{"Div", decimal.Div, 5, -2000000, -2, api.OK},
		{"Div", decimal.Div, -7, -2000000, 4, api.OK},
		{"Div", decimal.Div, 2000000, 3000000, 666667, api.OK},
		{"Div", decimal.Div, -2000000, 3000000, -666667, api.OK},
		{"Div", decimal.Div, most, 1, 0, api.ErrBig},
		{"Div", decimal.Div, 18446744073709, 1, 0, api.ErrBig},
		{"Div", decimal.Div, 1000000000, 1, most, api.OK},
		{"Div", decimal.Div, 1000000001, 1, 0, api.ErrBig},
		{"Div", decimal.Div, -1000000000, 1, -most, api.OK},
		{"Div", decimal.Div, 1, most, 0, api.OK},
		{"Div", decimal.Div, 0, most, 0, api.OK},
		{"Div", decimal.Div, 0, -1, 0, api.OK},
		{"Div", decimal.Div, 0, 0, 0, api.ErrZero},
		{"Div", decimal.Div, most, 0, 0, api.ErrZero},
		{"Div", decimal.Div, -most - 1, 0, 0, api.ErrBig},
		{"Div", decimal.Div, math.MinInt, 0, 0, api.ErrBig},
		{"Div", decimal.Div, 0, most + 1, 0, api.ErrBig},
		{"Div", decimal.Div, math.MinInt, -1, 0, api.ErrBig},
		{"Div", decimal.Div, math.MinInt, math.MinInt, 0, api.ErrBig},
	} {
		if n, e := c.op(c.a, c.b); n != c.n || e != c.e {
			t.Errorf("%s(%d, %d): %d, %d instead of %d, %d", c.name, c.a, c.b, n, e, c.n, c.e)
		}
	}
}

func TestTruncFollowsTheModel(t *testing.T) {
	eachNumber(func(n int) {
		for _, scale := range edgeScales {
			if got, want := decimal.Trunc(n, scale), modelTrunc(n, scale); got != want {
				t.Errorf("Trunc(%d, %d): %d instead of %d", n, scale, got, want)
			}
		}
	})
}

func TestCmp(t *testing.T) {
	check := func(a, b int) {
		if got, want := decimal.Cmp(a, b), wide(a).Cmp(wide(b)); got != want {
			t.Errorf("Cmp(%d, %d): %d instead of %d", a, b, got, want)
		}
	}
	edges := edgeNumbers()
	for _, a := range edges {
		for _, b := range edges {
			check(a, b)
		}
	}
	r := newRand()
	for range 5000 {
		check(someNumber(r, 63), someNumber(r, 63))
	}
}

func many(n int, element int) []int {
	l := make([]int, n)
	for i := range l {
		l[i] = element
	}
	return l
}

func TestSum(t *testing.T) {
	const rest = 1<<64 - 4*mostSum // up to 2^64, so that 64 bits would come to 0
	for i, c := range []struct {
		l []int
		n int
		e api.Errno
	}{
		{nil, 0, api.OK},
		{[]int{}, 0, api.OK},
		{[]int{0}, 0, api.OK},
		{[]int{1, -3, 7}, 5, api.OK},
		{[]int{mostSum}, mostSum, api.OK},
		{[]int{-mostSum}, -mostSum, api.OK},
		{[]int{mostSum + 1}, 0, api.ErrBig},
		{[]int{-mostSum - 1}, 0, api.ErrBig},
		{[]int{math.MinInt}, 0, api.ErrBig},
		{[]int{math.MaxInt}, 0, api.ErrBig},
		{[]int{mostSum, 1}, 0, api.ErrBig},
		{[]int{-mostSum, -1}, 0, api.ErrBig},
		{[]int{mostSum, 1, -1}, mostSum, api.OK},
		{[]int{-1, -mostSum, 1}, -mostSum, api.OK},
		{[]int{mostSum, mostSum, -mostSum, -mostSum}, 0, api.OK},
		{[]int{mostSum + 1, -1}, 0, api.ErrBig},
		{[]int{-1, mostSum + 1}, 0, api.ErrBig},
		{[]int{math.MinInt, math.MaxInt, 1}, 0, api.ErrBig},
		{[]int{1, 2, 3, -mostSum - 1}, 0, api.ErrBig},
		{[]int{mostSum, mostSum, mostSum}, 0, api.ErrBig},
		{[]int{mostSum, mostSum, mostSum, mostSum, rest}, 0, api.ErrBig},
		{[]int{-mostSum, -mostSum, -mostSum, -mostSum, -rest}, 0, api.ErrBig},
		{[]int{mostSum, mostSum, mostSum, mostSum, rest, -5}, 0, api.ErrBig},
		{[]int{-1, -mostSum, -mostSum, -mostSum, -mostSum, 1 - rest}, 0, api.ErrBig},
		{many(64, 1<<58), 0, api.ErrBig},
		{many(64, -1<<58), 0, api.ErrBig},
		{many(128, 1<<57), 0, api.ErrBig},
		{many(1<<16, 1<<61), 0, api.ErrBig},
		{many(1<<16, -1<<61), 0, api.ErrBig},
		{many(1<<16, 1), 1 << 16, api.OK},
		{append(many(4000, 1000000000000000), 0), mostSum, api.OK},
		{append(many(4000, -1000000000000000), -1), 0, api.ErrBig},
		{slices.Concat(many(1<<16, 1<<61), many(1<<16, -1<<61), []int{-7}), -7, api.OK},
		{slices.Concat(many(1<<16, -1<<61), []int{mostSum}, many(1<<16, 1<<61)), mostSum, api.OK},
	} {
		if n, e := decimal.Sum(c.l); n != c.n || e != c.e {
			t.Errorf("sum %d: %d, %d instead of %d, %d", i, n, e, c.n, c.e)
		}
		checkSum(t, c.l)
	}
}

func TestSumFollowsTheModel(t *testing.T) {
	r := newRand()
	for range 3000 {
		l := make([]int, r.IntN(20))
		for i := range l {
			l[i] = someNumber(r, 62)
		}
		checkSum(t, l)
		if n, e := modelSum(l); e == api.OK {
			for d := -1; d <= 1; d++ {
				checkSum(t, append(slices.Clone(l), mostSum-n+d))
				checkSum(t, append(slices.Clone(l), -mostSum-n+d))
			}
		}
	}
}

// What lies behind the end of an argument, in the same array, is no part of it.
func TestSumLeavesItsArgument(t *testing.T) {
	r := newRand()
	for n := range 40 {
		l := make([]int, n+5)
		for i := range l {
			l[i] = someNumber(r, 55)
		}
		before := slices.Clone(l)
		checkSum(t, l[:n])
		if !slices.Equal(l, before) {
			t.Errorf("Sum changed a list of %d elements", n)
		}
	}
}

// No call changes what a later one returns, or one at the same time.
func TestCallsAreIndependent(t *testing.T) {
	done := make(chan bool)
	for k := range 8 {
		go func() {
			same := true
			for range 300 {
				s, _ := decimal.Sum([]int{mostSum, k, -mostSum})
				p, _ := decimal.Mul(k*unit, 1500000)
				q, _ := decimal.Parse(modelText(k), 6)
				same = same && s == k && p == k*1500000 && q == k && decimal.Text(k*unit) == modelText(k*unit) && decimal.Trunc(k*unit+1, k%6) == k*unit
			}
			done <- same
		}()
	}
	for range 8 {
		if !<-done {
			t.Error("a result changed from call to call")
		}
	}
}

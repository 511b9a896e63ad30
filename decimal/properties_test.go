package decimal_test

import (
	"math/big"
	"math/rand/v2"
	"slices"
	"testing"

	"chapman/api"
	"chapman/decimal"
)

// P2.2: Parse inverts Text with each scale that the number has, and with no other one.
func TestTextsComeBack(t *testing.T) {
	eachNumber(func(n int) {
		if tooBig(n, 0) {
			return
		}
		s := decimal.Text(n)
		for scale := range 7 {
			m, e := decimal.Parse(s, scale)
			if fits := n%modelUnit(scale) == 0; fits && (m != n || e != api.OK) {
				t.Errorf("Parse(%q, %d), the text of %d: %d, %d", s, scale, n, m, e)
			} else if !fits && (m != 0 || e != api.ErrForm) {
				t.Errorf("Parse(%q, %d), more places than the scale: %d, %d", s, scale, m, e)
			}
		}
	})
}

// P2.2: what Parse accepts is the text of a valid number that has the scale.
func TestAcceptedTextsAreTexts(t *testing.T) {
	accepted := 0
	check := func(s string, scale int) {
		n, e := decimal.Parse(s, scale)
		if e != api.OK {
			return
		}
		accepted++
		if decimal.Text(n) != s || !decimal.Fits(n, scale) || n%modelUnit(scale) != 0 || tooBig(n, 0) {
			t.Errorf("Parse(%q, %d): %d, whose text is %q", s, scale, n, decimal.Text(n))
		}
	}
	eachText("-+.0159e_ ", 4, func(s string) {
		for scale := range 7 {
			check(s, scale)
		}
	})
	r := newRand()
	for range 5000 {
		s := []byte(modelText(someNumber(r, 56)))
		check(string(s), r.IntN(7))
		s[r.IntN(len(s))] = "-.0000123456789"[r.IntN(15)]
		check(string(s), r.IntN(7))
	}
	if accepted < 5000 {
		t.Errorf("only %d texts were accepted", accepted)
	}
}

// P2.3: sums are commutative, and differences are their inverses.
func TestSumsAndDifferences(t *testing.T) {
	eachPair(func(a, b int) {
		s, e := decimal.Add(a, b)
		if s2, e2 := decimal.Add(b, a); s2 != s || e2 != e {
			t.Errorf("Add(%d, %d): %d, %d, but %d, %d the other way round", a, b, s, e, s2, e2)
		}
		if e == api.OK {
			if d, e := decimal.Sub(s, b); d != a || e != api.OK {
				t.Errorf("Sub(%d, %d), a sum less %d: %d, %d instead of %d", s, b, b, d, e, a)
			}
		} else if s != 0 || e != api.ErrBig || !tooBig(a+b, 0) {
			t.Errorf("Add(%d, %d): %d, %d", a, b, s, e)
		}
		if d, e := decimal.Sub(a, b); e == api.OK {
			if s, e := decimal.Add(d, b); s != a || e != api.OK {
				t.Errorf("Add(%d, %d), a difference and %d: %d, %d instead of %d", d, b, b, s, e, a)
			}
		} else if d != 0 || e != api.ErrBig || !tooBig(a-b, 0) {
			t.Errorf("Sub(%d, %d): %d, %d", a, b, d, e)
		}
	})
}

func someList(r *rand.Rand, n int) []int {
	l := make([]int, n)
	for i := range l {
		switch r.IntN(4) {
		case 0:
			l[i] = mostSum - r.IntN(3)
		case 1:
			l[i] = -mostSum + r.IntN(3)
		default:
			l[i] = someNumber(r, 61)
		}
	}
	return l
}

// P2.3: the sum does not depend on the order of the elements.
func TestOrderDoesNotTell(t *testing.T) {
	r := newRand()
	for range 3000 {
		l := someList(r, r.IntN(24))
		want, wantE := decimal.Sum(l)
		other := slices.Clone(l)
		reorder := []func(){func() { slices.Sort(other) }, func() { slices.Reverse(other) }}
		for range 4 {
			reorder = append(reorder, func() { r.Shuffle(len(other), func(i, j int) { other[i], other[j] = other[j], other[i] }) })
		}
		for _, f := range reorder {
			f()
			if n, e := decimal.Sum(other); n != want || e != wantE {
				t.Fatalf("Sum(%v): %d, %d; Sum(%v): %d, %d", l, want, wantE, other, n, e)
			}
		}
	}
}

// P2.3: the sum is that of the sums of its parts, if these are representable.
func TestPartsAddUp(t *testing.T) {
	r := newRand()
	sums := 0
	for range 5000 {
		l := someList(r, r.IntN(10))
		want, wantE := decimal.Sum(l)
		if n, e := decimal.Sum(append(slices.Clone(l), 0)); n != want || e != wantE {
			t.Fatalf("Sum(%v): %d, %d, but %d, %d with a further 0", l, want, wantE, n, e)
		}
		i := r.IntN(len(l) + 1)
		j := i + r.IntN(len(l)-i+1)
		var parts []int
		whole := true
		for _, part := range [][]int{l[:i], l[i:j], l[j:]} {
			n, e := decimal.Sum(part)
			parts = append(parts, n)
			whole = whole && e == api.OK
		}
		if !whole {
			continue
		}
		if n, e := decimal.Sum(parts); n != want || e != wantE {
			t.Fatalf("Sum(%v): %d, %d, but its parts at %d and %d come to %d, %d", l, want, wantE, i, j, n, e)
		}
		if wantE == api.OK {
			sums++
		}
	}
	if sums < 500 {
		t.Errorf("only %d lists had a sum", sums)
	}
}

// checkNear checks that n is a/b, rounded half to even.
func checkNear(t *testing.T, what string, x, y, n int, a, b *big.Int) {
	t.Helper()
	exact := new(big.Rat).SetFrac(a, b)
	off := new(big.Rat).Sub(new(big.Rat).SetInt(wide(n)), exact)
	switch off.Abs(off).Cmp(big.NewRat(1, 2)) {
	case 1:
		t.Errorf("%s(%d, %d): %d is off by more than a half", what, x, y, n)
	case 0:
		if n%2 != 0 {
			t.Errorf("%s(%d, %d): %d is off by a half and odd", what, x, y, n)
		}
	}
	if sign := wide(n).Sign(); sign != 0 && sign != exact.Sign() {
		t.Errorf("%s(%d, %d): %d has the wrong sign", what, x, y, n)
	}
}

// checkRefused checks that a/b is too big for a valid number.
func checkRefused(t *testing.T, what string, x, y, n int, e api.Errno, a, b *big.Int) {
	t.Helper()
	exact := new(big.Rat).SetFrac(a, b)
	if n != 0 || e != api.ErrBig || exact.Abs(exact).Cmp(new(big.Rat).SetFrac(wide(2*most+1), wide(2))) <= 0 {
		t.Errorf("%s(%d, %d): %d, %d", what, x, y, n, e)
	}
}

// P2.4
func TestProducts(t *testing.T) {
	check := func(a, b int) {
		n, e := decimal.Mul(a, b)
		exact := new(big.Int).Mul(wide(a), wide(b))
		if e == api.OK {
			checkNear(t, "Mul", a, b, n, exact, million)
		} else {
			checkRefused(t, "Mul", a, b, n, e, exact, million)
		}
		if m, e2 := decimal.Mul(b, a); m != n || e2 != e {
			t.Errorf("Mul(%d, %d): %d, %d, but %d, %d the other way round", a, b, n, e, m, e2)
		}
	}
	eachPair(check)
	// Products in the middle between two numbers: an odd number of halves.
	r := newRand()
	for range 5000 {
		odd := 2*r.IntN(1000000) + 1
		check(500000, odd)
		check(-500000, odd)
		check(odd*125, -4000)
		check(odd*15625, 32)
	}
}

// P2.5
func TestQuotients(t *testing.T) {
	check := func(a, b int) {
		n, e := decimal.Div(a, b)
		if b == 0 {
			if n != 0 || e != api.ErrZero {
				t.Errorf("Div(%d, 0): %d, %d", a, n, e)
			}
			return
		}
		exact := new(big.Int).Mul(wide(a), million)
		if e == api.OK {
			checkNear(t, "Div", a, b, n, exact, wide(b))
		} else {
			checkRefused(t, "Div", a, b, n, e, exact, wide(b))
		}
	}
	eachPair(check)
	// Quotients in the middle between two numbers: an odd number of halves.
	r := newRand()
	for range 5000 {
		odd, k := 2*r.IntN(1000000)+1, 1+r.IntN(1000)
		check(odd, 2*unit)
		check(-odd*k, 2*unit*k)
		check(odd*k, -2*unit*k)
		check(odd*125, 250*unit)
	}
}

// P2.5: the quotient by 1 is the number.
func TestQuotientsByOne(t *testing.T) {
	eachNumber(func(n int) {
		if tooBig(n, 0) {
			return
		}
		if q, e := decimal.Div(n, unit); q != n || e != api.OK {
			t.Errorf("Div(%d, %d): %d, %d", n, unit, q, e)
		}
	})
}

// P2.5: the quotient of an exact product by one of its factors is the other one.
func TestQuotientsUndoProducts(t *testing.T) {
	exact := 0
	check := func(a, b int) {
		p, e := decimal.Mul(a, b)
		product := new(big.Int).Mul(wide(a), wide(b))
		if e != api.OK || product.Cmp(new(big.Int).Mul(wide(p), million)) != 0 {
			return
		}
		exact++
		if b != 0 {
			if q, e := decimal.Div(p, b); q != a || e != api.OK {
				t.Errorf("Div(%d, %d), a product of %d: %d, %d", p, b, a, q, e)
			}
		}
		if a != 0 {
			if q, e := decimal.Div(p, a); q != b || e != api.OK {
				t.Errorf("Div(%d, %d), a product of %d: %d, %d", p, a, b, q, e)
			}
		}
	}
	eachPair(check)
	r := newRand()
	for range 10000 {
		u := modelUnit(r.IntN(7))
		check(someNumber(r, 25)*u, someNumber(r, 20)*(unit/u))
	}
	if exact < 10000 {
		t.Errorf("only %d products were exact", exact)
	}
}

// P2.6
func TestTruncation(t *testing.T) {
	eachNumber(func(n int) {
		for scale := range 7 {
			m := decimal.Trunc(n, scale)
			if m%modelUnit(scale) != 0 || !decimal.Fits(m, scale) {
				t.Errorf("Trunc(%d, %d): %d does not have the scale", n, scale, m)
			}
			if wide(m).CmpAbs(wide(n)) > 0 || wide(m).Sign()*wide(n).Sign() < 0 {
				t.Errorf("Trunc(%d, %d): %d is not toward zero", n, scale, m)
			}
			if off := new(big.Int).Sub(wide(n), wide(m)); off.CmpAbs(wide(modelUnit(scale))) >= 0 {
				t.Errorf("Trunc(%d, %d): %d is off by a unit or more", n, scale, m)
			}
			if (m == n) != (n%modelUnit(scale) == 0) || (m == n) != decimal.Fits(n, scale) {
				t.Errorf("Trunc(%d, %d): %d", n, scale, m)
			}
		}
	})
}

// P2.6: truncating twice is truncating to the lesser scale.
func TestTruncatingTwice(t *testing.T) {
	eachNumber(func(n int) {
		for first := range 7 {
			for second := range 7 {
				got, want := decimal.Trunc(decimal.Trunc(n, first), second), decimal.Trunc(n, min(first, second))
				if got != want {
					t.Errorf("Trunc of %d to %d, then to %d: %d instead of %d", n, first, second, got, want)
				}
			}
		}
	})
}

// P2.6: the greater of two numbers is not truncated to less than the other one.
func TestTruncationIsMonotone(t *testing.T) {
	for scale := range 7 {
		var l []int
		eachNumber(func(n int) { l = append(l, n) })
		slices.Sort(l)
		for i, n := range l[1:] {
			if decimal.Trunc(l[i], scale) > decimal.Trunc(n, scale) {
				t.Errorf("Trunc to %d: %d is less than %d, but %d more than %d", scale, l[i], n, decimal.Trunc(l[i], scale), decimal.Trunc(n, scale))
			}
		}
	}
}

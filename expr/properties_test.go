package expr_test

import (
	"math/rand/v2"
	"slices"
	"testing"

	"chapman/api"
	"chapman/expr"
	"chapman/value"
)

// wellFormed yields expressions of the kind that are well-formed for someTypes, each with a row that fits.
func wellFormed(t *testing.T, kind, n int, yield func(r *rand.Rand, e api.Expr, row []api.Value)) {
	t.Helper()
	r := newRand()
	for range n {
		e := someExpr(r, someTypes(), kind, 1+r.IntN(mostNodes))
		if typ, x := expr.Check(someTypes(), e); x != api.OK || typ.K != kind {
			t.Errorf("Check of %s: %v, %d", spelled(e), typ, x)
		}
		yield(r, e, someRow(r, someTypes()))
	}
}

// conditions yields short conditions, by threes, with rows that fit; each of them has each of the three values often.
func conditions(yield func(a, b, c api.Expr, row []api.Value)) {
	r := newRand()
	for range 3000 {
		l := []api.Expr{someExpr(r, someTypes(), 1, 1+r.IntN(8)), someExpr(r, someTypes(), 1, 1+r.IntN(8)), someExpr(r, someTypes(), 1, 1+r.IntN(8))}
		yield(l[0], l[1], l[2], someRow(r, someTypes()))
	}
	truths := list(null(), boolean(false), boolean(true))
	for _, a := range truths {
		for _, b := range truths {
			for _, c := range truths {
				yield(col(0), col(1), col(2), list(a, b, c))
			}
		}
	}
}

// seen counts values, so that a test notices what it never tried.
type seen map[api.Value]int

func (s seen) check(t *testing.T, least int, values ...api.Value) {
	t.Helper()
	for _, v := range values {
		if s[v] < least {
			t.Errorf("the value %v was tried %d times", v, s[v])
		}
	}
}

// P11.2: null, if the type has it, or a value of the kind of the type, which fits it even if it is wide.
func TestValuesHaveTheirTypes(t *testing.T) {
	fits := func(typ api.Type, v api.Value) bool {
		units := [...]int{1000000, 100000, 10000, 1000, 100, 10, 1}
		switch v.K {
		case 0:
			return typ.Null && v == null()
		case 2:
			return typ.K == 2 && value.Wide(v) && v.I%units[typ.Scale] == 0
		}
		return typ.K == v.K && value.Valid(v)
	}
	found := seen{}
	for kind := 1; kind <= 3; kind++ {
		wellFormed(t, kind, 10000, func(r *rand.Rand, e api.Expr, row []api.Value) {
			typ, _ := expr.Check(someTypes(), e)
			v := expr.Eval(e, row)
			if !fits(typ, v) {
				t.Errorf("Eval of %s, of the type %v, for %v: %v", spelled(e), typ, row, v)
			}
			found[v]++
		})
	}
	found.check(t, 50, null(), boolean(false), boolean(true), num(mostSum), str(""))
	// A constant has its type, and no type with a smaller scale has it.
	r := newRand()
	for range 5000 {
		v := someValue(r, number(r.IntN(7), false))
		typ, x := expr.Check(nil, con(v))
		if valid := value.Valid(v); valid != (x == api.OK) || valid && !value.Has(typ, v) || typ.Scale > 0 && value.Has(number(typ.Scale-1, false), v) {
			t.Errorf("Check of %v: %v, %d", v, typ, x)
		}
	}
}

// P11.3: the laws of conjunctions, disjunctions and negations.
func TestLaws(t *testing.T) {
	found := seen{}
	conditions(func(a, b, c api.Expr, row []api.Value) {
		for _, v := range []api.Expr{a, b, c} {
			found[expr.Eval(v, row)]++
		}
		for name, law := range map[string][2]api.Expr{
			"and is commutative":             {and(a, b), and(b, a)},
			"or is commutative":              {or(a, b), or(b, a)},
			"and is associative":             {and(and(a, b), c), and(a, and(b, c))},
			"or is associative":              {or(or(a, b), c), or(a, or(b, c))},
			"and is idempotent":              {and(a, a), a},
			"or is idempotent":               {or(a, a), a},
			"and distributes over or":        {and(a, or(b, c)), or(and(a, b), and(a, c))},
			"or distributes over and":        {or(a, and(b, c)), and(or(a, b), or(a, c))},
			"a conjunction is negated":       {not(and(a, b)), or(not(a), not(b))},
			"a disjunction is negated":       {not(or(a, b)), and(not(a), not(b))},
			"a negation is negated":          {not(not(a)), a},
			"what is null is null negated":   {op(9, a), op(9, not(a))},
			"a conjunction absorbs":          {and(a, or(a, b)), a},
			"a disjunction absorbs":          {or(a, and(a, b)), a},
			"true changes no conjunction":    {and(a, con(boolean(true))), a},
			"false changes no disjunction":   {or(a, con(boolean(false))), a},
			"false makes conjunctions false": {and(a, con(boolean(false))), con(boolean(false))},
			"true makes disjunctions true":   {or(a, con(boolean(true))), con(boolean(true))},
		} {
			if v, w := expr.Eval(law[0], row), expr.Eval(law[1], row); v != w {
				t.Errorf("%s: %s is %v, and %s is %v for %v", name, spelled(law[0]), v, spelled(law[1]), w, row)
			}
		}
	})
	found.check(t, 500, null(), boolean(false), boolean(true))
}

// P11.4: at most equal is less or equal; one of less, equal and greater holds, as values are ordered; and texts have prefixes.
func TestOrder(t *testing.T) {
	r := newRand()
	found := map[int]int{}
	for range 20000 {
		kind := 1 + r.IntN(3)
		typ := api.Type{K: kind, Null: true}
		if kind == 2 {
			typ.Scale = r.IntN(7)
		}
		a, b := someValue(r, typ), someValue(r, typ)
		row := list(a, b)
		eq, lt, gt, le := op(3, col(0), col(1)), op(4, col(0), col(1)), op(4, col(1), col(0)), op(5, col(0), col(1))
		if expr.Holds(le, row) != (expr.Holds(lt, row) || expr.Holds(eq, row)) || expr.Eval(le, row) != expr.Eval(or(lt, eq), row) {
			t.Errorf("%v: at most equal is %v", row, expr.Eval(le, row))
		}
		if a == null() || b == null() {
			for _, e := range []api.Expr{eq, lt, gt, le} {
				if v := expr.Eval(e, row); v != null() {
					t.Errorf("%s for %v: %v", spelled(e), row, v)
				}
			}
			continue
		}
		c := value.Cmp(a, b)
		found[c]++
		if expr.Holds(lt, row) != (c < 0) || expr.Holds(eq, row) != (c == 0) || expr.Holds(gt, row) != (c > 0) {
			t.Errorf("%v: less %v, equal %v, greater %v", row, expr.Eval(lt, row), expr.Eval(eq, row), expr.Eval(gt, row))
		}
		if kind == 3 && (!expr.Holds(op(12, col(0), col(0)), row) || !expr.Holds(op(12, col(0), con(str(""))), row) || expr.Holds(op(12, col(0), col(1)), row) && c < 0) {
			t.Errorf("%v: prefixes", row)
		}
	}
	if found[-1] < 1000 || found[0] < 1000 || found[1] < 1000 {
		t.Errorf("comparisons: %v", found)
	}
	for n := range 41 {
		s := someText(r)
		all := (s + "0123456789012345678901234567890123456789")[:40]
		if !expr.Holds(op(12, con(str(all)), con(str(all[:n]))), nil) || n < 40 && expr.Holds(op(12, con(str(all[:n])), con(str(all))), nil) {
			t.Errorf("%d bytes of %q as a prefix", n, all)
		}
	}
}

// P11.5: sums are commutative, and differences undo them.
func TestArithmetic(t *testing.T) {
	found := seen{}
	wellFormed(t, 2, 5000, func(r *rand.Rand, e api.Expr, row []api.Value) {
		a, b := e, someExpr(r, someTypes(), 2, 1+r.IntN(10))
		sum := op(10, a, b)
		v := expr.Eval(sum, row)
		found[v]++
		if w := expr.Eval(op(10, b, a), row); v != w && expr.Size(sum) <= mostNodes {
			t.Errorf("%s and its reverse for %v: %v, %v", spelled(sum), row, v, w)
		}
		if expr.Size(op(11, sum, a)) > mostNodes || v == null() {
			return
		}
		found[boolean(true)]++
		if w := expr.Eval(op(11, sum, a), row); w != expr.Eval(b, row) {
			t.Errorf("%s, less the first one, for %v: %v", spelled(sum), row, w)
		}
		if w := expr.Eval(op(11, sum, b), row); w != expr.Eval(a, row) {
			t.Errorf("%s, less the second one, for %v: %v", spelled(sum), row, w)
		}
	})
	found.check(t, 500, null(), boolean(true))
	// Sums of any two wide numbers.
	r := newRand()
	for range 20000 {
		a, b := someNumber(r, 1), someNumber(r, 1)
		row := list(num(a), num(b))
		sum := expr.Eval(op(10, col(0), col(1)), row)
		if fits := max(a+b, -a-b) <= mostSum; fits != (sum == num(a+b)) || !fits && sum != null() {
			t.Errorf("sum of %v: %v", row, sum)
		}
		if expr.Eval(op(10, col(1), col(0)), row) != sum || sum != null() && (expr.Eval(op(11, op(10, col(0), col(1)), col(0)), row) != row[1] || expr.Eval(op(11, op(10, col(0), col(1)), col(1)), row) != row[0]) {
			t.Errorf("sum of %v: %v", row, sum)
		}
	}
}

// P11.6: a condition without EIsNull that is not null keeps its value, whatever takes the place of nulls.
func TestMonotonicity(t *testing.T) {
	var types []api.Type
	for _, typ := range someTypes() {
		types = append(types, api.Type{K: typ.K, Scale: typ.Scale, Null: true})
	}
	r := newRand()
	found := seen{}
	for range 20000 {
		e := withoutIsNull(someExpr(r, types, 1, 1+r.IntN(30)))
		if typ, x := expr.Check(types, e); x != api.OK || typ.K != 1 {
			t.Errorf("Check of %s: %v, %d", spelled(e), typ, x)
		}
		row := someRow(r, types)
		for c := range row {
			if r.IntN(3) == 0 {
				row[c] = null()
			}
		}
		v := expr.Eval(e, row)
		if v == null() {
			continue
		}
		for range 5 {
			filled := slices.Clone(row)
			for c := range filled {
				if filled[c] == null() && r.IntN(3) > 0 {
					filled[c] = someValue(r, api.Type{K: types[c].K, Scale: types[c].Scale})
				}
			}
			if !slices.Equal(filled, row) && len(expr.Columns(e)) > 0 {
				found[v]++
			}
			if w := expr.Eval(e, filled); w != v {
				t.Errorf("%s is %v for %v, and %v for %v", spelled(e), v, row, w, filled)
			}
		}
	}
	found.check(t, 1000, boolean(false), boolean(true))
	// With EIsNull it does not hold.
	if e := op(9, col(0)); !expr.Holds(e, list(null())) || expr.Holds(e, list(num(1))) {
		t.Error("whether a column is null")
	}
}

// withoutIsNull returns e with other conditions in the place of EIsNull.
func withoutIsNull(e api.Expr) api.Expr {
	e = copied(e)
	for i := range e.Args {
		e.Args[i] = withoutIsNull(e.Args[i])
	}
	if e.Op != 9 {
		return e
	}
	a := e.Args[0]
	switch typ, _ := expr.Check(someTypes(), a); typ.K {
	case 1:
		return not(a)
	case 2:
		return op(4, a, con(num(1000000)))
	}
	return op(12, a, con(str("a")))
}

// P11.7: the value depends on the columns in the expression alone.
func TestColumnsDecide(t *testing.T) {
	for kind := 1; kind <= 3; kind++ {
		wellFormed(t, kind, 3000, func(r *rand.Rand, e api.Expr, row []api.Value) {
			v, columns := expr.Eval(e, row), expr.Columns(e)
			if !slices.IsSorted(columns) || len(slices.Compact(slices.Clone(columns))) < len(columns) {
				t.Errorf("Columns of %s: %v", spelled(e), columns)
			}
			other := someRow(r, someTypes())
			for _, c := range columns {
				other[c] = row[c]
			}
			if w := expr.Eval(e, other); w != v {
				t.Errorf("%s is %v for %v, and %v for %v", spelled(e), v, row, w, other)
			}
			if last := len(columns); last > 0 {
				if w := expr.Eval(e, other[:columns[last-1]+1]); w != v {
					t.Errorf("%s is %v for %v, and %v for its beginning", spelled(e), v, row, w)
				}
			}
		})
	}
	// Each column in the expression can make a difference.
	if e := or(col(0), col(1)); expr.Holds(e, list(boolean(false), boolean(false))) || !expr.Holds(e, list(boolean(false), boolean(true))) || !expr.Holds(e, list(boolean(true), boolean(false))) {
		t.Errorf("values of %s", spelled(e))
	}
}

// P11.7: with other numbers of columns, the type and the value are those for the row with these numbers.
func TestRenumbering(t *testing.T) {
	for kind := 1; kind <= 3; kind++ {
		wellFormed(t, kind, 3000, func(r *rand.Rand, e api.Expr, row []api.Value) {
			cols := r.Perm(12)[:len(row)]
			types, moved := make([]api.Type, 12), make([]api.Value, 12)
			for c, to := range cols {
				types[to], moved[to] = someTypes()[c], row[c]
			}
			m, x := expr.Map(e, cols)
			if x != api.OK {
				t.Errorf("Map of %s with %v: %d", spelled(e), cols, x)
			}
			typ, _ := expr.Check(someTypes(), e)
			if got, x := expr.Check(types, m); got != typ || x != api.OK {
				t.Errorf("Check of %s: %v, %d instead of %v", spelled(m), got, x, typ)
			}
			if v, w := expr.Eval(e, row), expr.Eval(m, moved); v != w {
				t.Errorf("%s is %v, and %s is %v", spelled(e), v, spelled(m), w)
			}
			if expr.Size(m) != expr.Size(e) || len(expr.Columns(m)) != len(expr.Columns(e)) {
				t.Errorf("%s has another size or other columns than %s", spelled(m), spelled(e))
			}
			// And back again.
			back := make([]int, 12)
			for c, to := range cols {
				back[to] = c
			}
			if b, x := expr.Map(m, back); x != api.OK || !same(b, e) {
				t.Errorf("%s became %s, and then %s", spelled(e), spelled(m), spelled(b))
			}
		})
	}
}

// P11.7: a condition holds exactly if all its conjuncts do, and these are no conjunctions.
func TestConjunctsDecide(t *testing.T) {
	found := map[int]int{}
	check := func(e api.Expr, row []api.Value) {
		all := true
		parts := expr.Conjuncts(e)
		for _, p := range parts {
			if p.Op == 6 {
				t.Errorf("a conjunct of %s: %s", spelled(e), spelled(p))
			}
			all = all && expr.Holds(p, row)
		}
		if expr.Holds(e, row) != all {
			t.Errorf("%s for %v: %t, but its conjuncts: %t", spelled(e), row, !all, all)
		}
		found[len(parts)]++
	}
	wellFormed(t, 1, 10000, func(r *rand.Rand, e api.Expr, row []api.Value) { check(e, row) })
	conditions(func(a, b, c api.Expr, row []api.Value) {
		check(and(and(a, b), c), row)
		check(and(a, and(b, c)), row)
		check(and(or(a, b), not(c)), row)
	})
	for n := 1; n <= 3; n++ {
		if found[n] < 1000 {
			t.Errorf("%d conditions of %d conjuncts", found[n], n)
		}
	}
}

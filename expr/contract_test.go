package expr_test

import (
	"math"
	"slices"
	"strings"
	"testing"

	"chapman/api"
	"chapman/expr"
)

// These tests are for P11.1 (contract), for K6 and for P1 of the document.

func checkCheck(t *testing.T, types []api.Type, e api.Expr) {
	t.Helper()
	want, ok := modelCheck(types, e)
	wantE := api.OK
	if !ok {
		want, wantE = api.Type{}, api.ErrExpr
	}
	if got, gotE := expr.Check(types, e); got != want || gotE != wantE {
		t.Errorf("Check of %s: %v, %d instead of %v, %d", spelled(e), got, gotE, want, wantE)
	}
}

func checkEval(t *testing.T, e api.Expr, row []api.Value) {
	t.Helper()
	want := modelEval(e, row)
	if got := expr.Eval(e, row); got != want {
		t.Errorf("Eval of %s for %v: %v instead of %v", spelled(e), row, got, want)
	}
	if got := expr.Holds(e, row); got != (want == boolean(true)) {
		t.Errorf("Holds of %s for %v: %t", spelled(e), row, got)
	}
}

// checkParts checks what needs no row: the columns, the size, the conjuncts and other columns of a well-formed expression.
func checkParts(t *testing.T, e api.Expr, cols []int) {
	t.Helper()
	was := copied(e)
	if got, want := expr.Columns(e), modelColumns(e); !slices.Equal(got, want) {
		t.Errorf("Columns of %s: %v instead of %v", spelled(e), got, want)
	}
	nodes, _ := modelNodes(e, mostNodes)
	if got := expr.Size(e); got != len(nodes) {
		t.Errorf("Size of %s: %d", spelled(e), got)
	}
	if got, want := expr.Conjuncts(e), modelConjuncts(e); !slices.EqualFunc(got, want, same) {
		t.Errorf("Conjuncts of %s: %v instead of %v", spelled(e), got, want)
	}
	got, gotE := expr.Map(e, cols)
	if want, wantE := modelMap(e, cols); !same(got, want) || gotE != wantE {
		t.Errorf("Map of %s with %v: %s, %d instead of %s, %d", spelled(e), cols, spelled(got), gotE, spelled(want), wantE)
	}
	if !same(e, was) {
		t.Errorf("%s was changed to %s", spelled(was), spelled(e))
	}
}

func TestExamples(t *testing.T) {
	types := list(number(2, false), text(true))
	row := list(num(1000000), null())
	both := and(op(4, col(0), con(num(1500000))), not(op(9, col(1))))
	if got, e := expr.Check(types, both); got != bit(false) || e != api.OK {
		t.Errorf("Check: %v, %d", got, e)
	}
	if v := expr.Eval(both, row); v != boolean(false) || expr.Holds(both, row) {
		t.Errorf("Eval: %v", v)
	}
	x := op(3, col(1), con(str("x")))
	if v := expr.Eval(x, row); v != null() || expr.Holds(x, row) {
		t.Errorf("Eval of %s: %v", spelled(x), v)
	}
	either := or(x, op(3, col(0), con(num(1000000))))
	if v := expr.Eval(either, row); v != boolean(true) || !expr.Holds(either, row) {
		t.Errorf("Eval of %s: %v", spelled(either), v)
	}
}

// K1: the types of well-formed expressions.
func TestTypes(t *testing.T) {
	n2, n6, n0, s, sNull, b, bNull := col(0), col(1), col(2), col(3), col(4), col(5), col(6)
	for _, c := range []struct {
		e api.Expr
		t api.Type
	}{
		// Constants have the least scale that they fit, and are never null.
		{con(num(0)), number(0, false)}, {con(num(1000000)), number(0, false)}, {con(num(-7000000)), number(0, false)}, {con(num(100000)), number(1, false)}, {con(num(-2500000)), number(1, false)}, {con(num(10000)), number(2, false)}, {con(num(1230000)), number(2, false)}, {con(num(1000)), number(3, false)}, {con(num(100)), number(4, false)}, {con(num(-10)), number(5, false)}, {con(num(1)), number(6, false)}, {con(num(-1)), number(6, false)}, {con(num(mostNumber)), number(0, false)}, {con(num(-mostNumber)), number(0, false)}, {con(num(mostNumber - 1)), number(6, false)},
		{con(str("")), text(false)}, {con(str(" ~\"\\")), text(false)}, {con(str(strings.Repeat("x", 40))), text(false)}, {con(boolean(false)), bit(false)}, {con(boolean(true)), bit(false)}, {api.Expr{Op: 1, K: num(0), Args: []api.Expr{}}, number(0, false)},
		// Columns have their own type.
		{n2, number(2, false)}, {n6, number(6, true)}, {n0, number(0, true)}, {s, text(false)}, {sNull, text(true)}, {b, bit(false)}, {bNull, bit(true)}, {api.Expr{Op: 2, C: 5, Args: []api.Expr{}}, bit(false)},
		// Comparisons are null if an argument may be.
		{op(3, n2, con(num(1))), bit(false)}, {op(3, n2, n6), bit(true)}, {op(3, n0, n2), bit(true)}, {op(3, n0, n6), bit(true)}, {op(4, s, s), bit(false)}, {op(4, s, sNull), bit(true)}, {op(4, sNull, con(str("a"))), bit(true)}, {op(5, b, con(boolean(true))), bit(false)}, {op(5, bNull, b), bit(true)}, {op(5, b, bNull), bit(true)}, {op(4, b, b), bit(false)}, {op(3, op(3, n2, n2), op(9, s)), bit(false)},
		// So are conjunctions, disjunctions and negations.
		{and(b, b), bit(false)}, {and(b, bNull), bit(true)}, {and(bNull, b), bit(true)}, {and(con(boolean(false)), bNull), bit(true)}, {or(b, b), bit(false)}, {or(b, bNull), bit(true)}, {or(bNull, con(boolean(true))), bit(true)}, {not(b), bit(false)}, {not(bNull), bit(true)}, {not(not(bNull)), bit(true)},
		// Whether something is null is never null.
		{op(9, b), bit(false)}, {op(9, bNull), bit(false)}, {op(9, n6), bit(false)}, {op(9, sNull), bit(false)}, {op(9, con(num(1))), bit(false)}, {op(9, op(10, n6, n6)), bit(false)},
		// Sums and differences have the greater scale, and may be null.
		{op(10, n2, n2), number(2, true)}, {op(10, n2, n6), number(6, true)}, {op(10, n6, n2), number(6, true)}, {op(11, n0, n2), number(2, true)}, {op(11, n2, n0), number(2, true)}, {op(11, n0, n0), number(0, true)}, {op(11, con(num(1000000)), con(num(100))), number(4, true)}, {op(10, con(num(0)), con(num(0))), number(0, true)}, {op(10, op(11, n0, con(num(1000))), n2), number(3, true)},
		{op(12, s, s), bit(false)}, {op(12, sNull, s), bit(true)}, {op(12, s, sNull), bit(true)}, {op(12, con(str("a")), con(str("ab"))), bit(false)},
		{op(3, op(10, n2, n2), n2), bit(true)}, {and(op(9, op(12, sNull, s)), b), bit(false)},
	} {
		if got, e := expr.Check(someTypes(), c.e); got != c.t || e != api.OK {
			t.Errorf("Check of %s: %v, %d instead of %v", spelled(c.e), got, e, c.t)
		}
		checkCheck(t, someTypes(), c.e)
	}
}

// K1: what is not well-formed, as such and as an argument.
func TestRefused(t *testing.T) {
	n, s, b, yes := col(0), col(3), col(5), con(boolean(true))
	full := func(o, c int, k api.Value, args ...api.Expr) api.Expr {
		return api.Expr{Op: o, C: c, K: k, Args: args}
	}
	refused := []api.Expr{
		// Operators that there are not.
		{}, op(0, b), op(-1), op(-1, b, b), op(13, b), op(13, b, b), op(13, n, n), op(13), op(14, s, s), op(256+8, b), op(math.MaxInt, b, b), op(math.MinInt, b, b), op(1 << 32), {Op: 0, K: num(1)}, {Op: 13, C: 5},
		// Constants that are null or not valid.
		con(null()), con(api.Value{I: 1}), con(api.Value{S: "a"}), con(api.Value{K: 1, I: 2}), con(api.Value{K: 1, I: -1}), con(api.Value{K: 1, S: "a"}), con(num(mostNumber + 1)), con(num(-mostNumber - 1)), con(num(mostSum)), con(num(math.MinInt)), con(num(math.MaxInt)), con(api.Value{K: 2, I: 1, S: "1"}), con(str("\n")), con(str("\x1f")), con(str("\x7f")), con(str("é")), con(str(strings.Repeat("x", 41))), con(api.Value{K: 3, I: 1}), con(api.Value{K: 4}), con(api.Value{K: -1}), con(api.Value{K: 258, I: 1}),
		// Columns that there are not.
		col(-1), col(8), col(9), col(math.MaxInt), col(math.MinInt),
		// Fields that should be zero.
		full(1, 1, num(1)), full(1, -1, num(1)), full(1, 0, num(1), n), full(1, 0, yes.K, yes), full(2, 0, num(1)), full(2, 5, boolean(false)), full(2, 5, api.Value{S: "a"}), full(2, 5, api.Value{I: 1}), full(2, 0, null(), n), full(2, 5, null(), b),
		full(3, 1, null(), n, n), full(4, 0, num(1), n, n), full(5, 0, boolean(false), n, n), full(6, 1, null(), b, b), full(6, 0, yes.K, b, b), full(7, -1, null(), b, b), full(7, 0, api.Value{I: 1}, b, b), full(8, 1, null(), b), full(8, 0, yes.K, b), full(9, 1, null(), b), full(9, 0, str("a"), b), full(10, 1, null(), n, n), full(11, 0, num(1), n, n), full(12, 3, null(), s, s), full(12, 0, str("a"), s, s),
		// Numbers of arguments.
		op(3), op(3, n), op(3, n, n, n), op(4), op(4, n), op(4, n, n, n), op(5), op(5, s), op(5, s, s, s), op(6), op(6, b), op(6, b, b, b), op(7), op(7, b), op(7, b, b, b), op(8), op(8, b, b), op(9), op(9, b, b), op(9, n, n), op(10), op(10, n), op(10, n, n, n), op(11), op(11, n), op(11, n, n, n), op(12), op(12, s), op(12, s, s, s),
		// Kinds of arguments.
		op(3, n, s), op(3, s, n), op(3, b, n), op(3, n, b), op(3, s, b), op(4, n, s), op(4, b, s), op(4, yes, con(num(1))), op(5, s, n), op(5, n, b), and(n, n), and(n, b), and(b, n), and(s, s), and(b, s), or(n, n), or(n, b), or(b, s), or(s, b), not(n), not(s), op(10, s, s), op(10, b, b), op(10, n, s), op(10, b, n), op(11, s, s), op(11, n, b), op(11, s, n), op(12, n, n), op(12, b, b), op(12, s, n), op(12, n, s), op(12, b, s), op(10, n, op(3, n, n)), and(b, op(10, n, n)), op(12, s, op(12, s, s)), not(op(11, n, n)),
	}
	for _, e := range refused {
		// What has an argument that is not well-formed is not well-formed either.
		for _, e := range []api.Expr{e, not(e), op(9, e), and(e, b), and(b, e), op(3, e, yes), op(3, e, n), op(3, s, e), op(10, e, n), op(12, s, e), op(9, not(e))} {
			if got, x := expr.Check(someTypes(), e); got != (api.Type{}) || x != api.ErrExpr {
				t.Errorf("Check of %s: %v, %d", spelled(e), got, x)
			}
			checkCheck(t, someTypes(), e)
		}
	}
}

// K1: the types of columns must be valid, but only those of the columns in the expression.
func TestTypesThatAreNotValid(t *testing.T) {
	for _, typ := range []api.Type{{}, {Null: true}, {K: 4}, {K: -1}, {K: 1, Scale: 1}, {K: 3, Scale: 6}, {K: 3, Scale: -1}, {K: 2, Scale: 7}, {K: 2, Scale: -1}, {K: 2, Scale: math.MaxInt}, {K: 258}} {
		types := list(typ, bit(true))
		for _, e := range []api.Expr{col(0), op(9, col(0)), op(3, col(0), col(0)), and(col(1), op(9, col(0))), not(col(0)), op(10, col(0), col(0)), op(12, col(0), col(0))} {
			if got, x := expr.Check(types, e); got != (api.Type{}) || x != api.ErrExpr {
				t.Errorf("Check of %s with %v: %v, %d", spelled(e), types, got, x)
			}
			checkCheck(t, types, e)
		}
		for _, e := range []api.Expr{col(1), not(col(1)), con(num(1)), op(9, col(1))} {
			if _, x := expr.Check(types, e); x != api.OK {
				t.Errorf("Check of %s with %v: %d", spelled(e), types, x)
			}
			checkCheck(t, types, e)
		}
	}
	for _, e := range []api.Expr{col(0), col(-1), col(1), op(9, col(0)), con(num(1)), and(con(boolean(true)), con(boolean(false)))} {
		checkCheck(t, nil, e)
		checkCheck(t, []api.Type{}, e)
		checkCheck(t, list(bit(false)), e)
	}
}

// K1: at most so many nodes, in whatever shape.
func TestNumberOfNodes(t *testing.T) {
	b := col(5)
	for n := mostNodes - 3; n <= mostNodes+3; n++ {
		shapes := []api.Expr{chain(n-1, b), chain(n-1, con(boolean(true)))}
		if n%2 == 1 {
			shapes = append(shapes, comb((n+1)/2, b), balanced((n+1)/2, b), comb((n+1)/2, op(9, b)).Args[1])
		} else {
			shapes = append(shapes, comb(n/2, b), not(comb(n/2, b)), not(balanced(n/2, b)), comb(n/2-9, chain(9, b)))
		}
		for _, e := range shapes {
			size, _ := modelNodes(e, 1000)
			_, x := expr.Check(someTypes(), e)
			if (x == api.OK) != (len(size) <= mostNodes) {
				t.Errorf("Check of %d nodes: %d", len(size), x)
			}
			checkCheck(t, someTypes(), e)
			if x == api.OK {
				checkParts(t, e, nil)
				checkParts(t, e, []int{0, 0, 0, 0, 0, 3})
				checkEval(t, e, []api.Value{{}, {}, {}, {}, {}, boolean(true)})
			}
		}
	}
	for _, e := range []api.Expr{chain(1<<16, b), comb(1000, b), balanced(1<<12, b), op(6, make([]api.Expr, 1<<20)...), op(9, slices.Repeat(list(b), 61)...), {Op: 1, K: num(1), Args: make([]api.Expr, 60)}} {
		if got, x := expr.Check(someTypes(), e); got != (api.Type{}) || x != api.ErrExpr {
			t.Errorf("Check of many nodes: %v, %d", got, x)
		}
	}
}

// endless returns expressions that have themselves as an argument, or far too many nodes in little memory.
func endless() []api.Expr {
	loop, pair := make([]api.Expr, 1), make([]api.Expr, 2)
	loop[0] = op(8, loop...)
	pair[0], pair[1] = op(6, pair...), op(6, pair...)
	shared := col(0)
	for range 60 {
		shared = and(shared, shared)
	}
	sums := col(0)
	for range 1000 {
		sums = op(10, sums, sums)
	}
	return []api.Expr{loop[0], pair[0], op(9, loop...), shared, sums}
}

// P1: every function ends, and none panics, also for what is not well-formed.
func TestCallsEnd(t *testing.T) {
	for _, e := range endless() {
		if got, x := expr.Check(someTypes(), e); got != (api.Type{}) || x != api.ErrExpr {
			t.Errorf("Check of an expression without end: %v, %d", got, x)
		}
		callAll(e, []api.Value{boolean(true)}, []int{0})
	}
	callAll(chain(1<<16, col(0)), []api.Value{boolean(true)}, []int{0})
	r := newRand()
	for range 20000 {
		e := someExpr(r, someTypes(), 1+r.IntN(3), 1+r.IntN(20))
		for range r.IntN(4) {
			e = spoiled(r, e)
		}
		checkCheck(t, someTypes(), e)
		row := someRow(r, someTypes())
		callAll(e, row[:r.IntN(len(row)+1)], []int{3, 0, -1, 2, 9, 1}[:r.IntN(7)])
	}
	for n := range 3 {
		eachOf([]api.Expr{col(0), col(-1), col(9), con(api.Value{K: 9, I: math.MinInt, S: "\x80"}), con(num(math.MinInt)), {Op: -3}}, n+1, func(e api.Expr) {
			callAll(e, nil, nil)
			callAll(e, []api.Value{{K: 7, I: math.MinInt}}, []int{math.MinInt})
		})
	}
}

func callAll(e api.Expr, row []api.Value, cols []int) {
	expr.Check(nil, e)
	expr.Eval(e, row)
	expr.Holds(e, row)
	expr.Columns(e)
	expr.Size(e)
	expr.Conjuncts(e)
	expr.Map(e, cols)
}

// K1 to K5: all expressions with few nodes, well-formed or not.
func TestSmallExpressions(t *testing.T) {
	types := list(bit(true), bit(false), number(1, true), text(true), api.Type{K: 3, Scale: 1})
	var rows [][]api.Value
	for _, b := range []api.Value{null(), boolean(false), boolean(true)} {
		for _, n := range []api.Value{null(), num(-100000), num(mostSum)} {
			for _, s := range []api.Value{null(), str("a"), str("ab")} {
				rows = append(rows, []api.Value{b, boolean(len(rows)%2 == 0), n, s, str("")})
			}
		}
	}
	count := 0
	check := func(e api.Expr) {
		checkCheck(t, types, e)
		if _, ok := modelCheck(types, e); !ok {
			return
		}
		count++
		for i, row := range rows {
			if i%7 == count%7 || count < 500 {
				checkEval(t, e, row)
			}
		}
		checkParts(t, e, []int{2, 5, 0, 0})
	}
	leaves := []api.Expr{col(0), col(1), col(2), col(3), con(num(100000)), con(str("a"))}
	for n := 1; n <= 4; n++ {
		eachOf(append(leaves, col(4), col(-1), col(5), con(boolean(false)), con(null()), api.Expr{}), n, check)
	}
	eachOf(leaves, 5, check)
	if count < 1000 {
		t.Errorf("only %d expressions were well-formed", count)
	}
}

// K1 to K5: expressions of any size.
func TestSomeExpressions(t *testing.T) {
	r := newRand()
	for range 20000 {
		e := someExpr(r, someTypes(), 1+r.IntN(3), 1+r.IntN(mostNodes))
		checkCheck(t, someTypes(), e)
		checkCheck(t, someTypes()[:r.IntN(9)], e)
		checkCheck(t, someTypes(), spoiled(r, e))
		for range 3 {
			checkEval(t, e, someRow(r, someTypes()))
		}
		var cols []int
		for range len(someTypes()) - r.IntN(20)/15 {
			cols = append(cols, r.IntN(40)-r.IntN(20)/19)
		}
		checkParts(t, e, cols)
	}
}

// K2: the three values of conditions, for all arguments.
func TestTruthTables(t *testing.T) {
	no, un, yes := boolean(false), null(), boolean(true)
	truths := list(no, un, yes)
	for _, c := range []struct {
		op   int
		want [3][3]api.Value
	}{
		{6, [3][3]api.Value{{no, no, no}, {no, un, un}, {no, un, yes}}},
		{7, [3][3]api.Value{{no, un, yes}, {un, un, yes}, {yes, yes, yes}}},
		{3, [3][3]api.Value{{yes, un, no}, {un, un, un}, {no, un, yes}}},
		{4, [3][3]api.Value{{no, un, yes}, {un, un, un}, {no, un, no}}},
		{5, [3][3]api.Value{{yes, un, yes}, {un, un, un}, {no, un, yes}}},
	} {
		for i, a := range truths {
			for j, b := range truths {
				row := list(a, b)
				if v := expr.Eval(op(c.op, col(0), col(1)), row); v != c.want[i][j] {
					t.Errorf("operator %d for %v: %v instead of %v", c.op, row, v, c.want[i][j])
				}
				if holds := expr.Holds(op(c.op, col(0), col(1)), row); holds != (c.want[i][j] == yes) {
					t.Errorf("operator %d for %v: %t", c.op, row, holds)
				}
			}
		}
	}
	for i, want := range []api.Value{yes, un, no} {
		if v := expr.Eval(not(col(0)), truths[i:]); v != want {
			t.Errorf("negation of %v: %v", truths[i], v)
		}
		if v := expr.Eval(op(9, col(0)), truths[i:]); v != boolean(i == 1) {
			t.Errorf("whether %v is null: %v", truths[i], v)
		}
		if v, holds := expr.Eval(col(0), truths[i:]), expr.Holds(col(0), truths[i:]); v != truths[i] || holds != (i == 2) {
			t.Errorf("a column with %v: %v, %t", truths[i], v, holds)
		}
	}
}

// K2: comparisons, sums, differences and prefixes of values that are not null.
func TestValues(t *testing.T) {
	none := null()
	for _, c := range []struct {
		op         int
		a, b, want api.Value
	}{
		{3, num(0), num(0), boolean(true)}, {3, num(1), num(-1), boolean(false)}, {3, num(mostSum), num(mostSum), boolean(true)}, {3, num(mostSum), num(mostSum - 1), boolean(false)}, {3, str(""), str(""), boolean(true)}, {3, str("a"), str("a "), boolean(false)}, {3, str("a"), str("A"), boolean(false)},
		{4, num(-1), num(0), boolean(true)}, {4, num(0), num(0), boolean(false)}, {4, num(1), num(0), boolean(false)}, {4, num(-mostSum), num(mostSum), boolean(true)}, {4, num(mostSum), num(-mostSum), boolean(false)}, {4, num(9), num(10), boolean(true)}, {4, str("9"), str("10"), boolean(false)}, {4, str(""), str(" "), boolean(true)}, {4, str("ab"), str("abc"), boolean(true)}, {4, str("b"), str("abc"), boolean(false)}, {4, str("Z"), str("a"), boolean(true)},
		{5, num(0), num(0), boolean(true)}, {5, num(-mostSum), num(-mostSum), boolean(true)}, {5, num(1), num(0), boolean(false)}, {5, num(0), num(1), boolean(true)}, {5, str("a"), str("a"), boolean(true)}, {5, str("b"), str("a~"), boolean(false)}, {5, str("a"), str("b"), boolean(true)},
		{10, num(1), num(2), num(3)}, {10, num(-5), num(2), num(-3)}, {10, num(0), num(0), num(0)}, {10, num(mostNumber), num(mostNumber), num(2 * mostNumber)}, {10, num(mostSum), num(0), num(mostSum)}, {10, num(mostSum), num(1), none}, {10, num(1), num(mostSum), none}, {10, num(mostSum - 1), num(1), num(mostSum)}, {10, num(-mostSum), num(-1), none}, {10, num(-mostSum), num(0), num(-mostSum)}, {10, num(mostSum), num(-mostSum), num(0)}, {10, num(mostSum), num(mostSum), none}, {10, num(-mostSum), num(-mostSum), none}, {10, num(mostSum / 2), num(mostSum / 2), num(mostSum)}, {10, num(mostSum / 2), num(mostSum/2 + 1), none},
		{11, num(1), num(2), num(-1)}, {11, num(2), num(-1), num(3)}, {11, num(0), num(mostSum), num(-mostSum)}, {11, num(0), num(-mostSum), num(mostSum)}, {11, num(mostSum), num(-1), none}, {11, num(-1), num(mostSum), none}, {11, num(-mostSum), num(1), none}, {11, num(1), num(-mostSum), none}, {11, num(mostSum), num(mostSum), num(0)}, {11, num(mostSum), num(-mostSum), none}, {11, num(-mostSum), num(mostSum), none}, {11, num(mostSum), num(1), num(mostSum - 1)},
		{12, str("abc"), str("ab"), boolean(true)}, {12, str("ab"), str("ab"), boolean(true)}, {12, str("ab"), str("abc"), boolean(false)}, {12, str("abc"), str("bc"), boolean(false)}, {12, str("abc"), str("b"), boolean(false)}, {12, str(""), str(""), boolean(true)}, {12, str("a"), str(""), boolean(true)}, {12, str(""), str("a"), boolean(false)}, {12, str("Ab"), str("a"), boolean(false)}, {12, str("a*c"), str("a*"), boolean(true)}, {12, str("abc"), str("a*"), boolean(false)},
	} {
		e, row := op(c.op, col(1), col(0)), list(c.b, c.a)
		if v := expr.Eval(e, row); v != c.want {
			t.Errorf("Eval of %s for %v: %v instead of %v", spelled(e), row, v, c.want)
		}
		checkEval(t, e, row)
		// Null takes the place of an argument.
		for _, row := range [][]api.Value{list(none, c.a), list(c.b, none), list(none, none)} {
			if v := expr.Eval(e, row); v != none || expr.Holds(e, row) {
				t.Errorf("Eval of %s for %v: %v", spelled(e), row, v)
			}
		}
	}
}

// K3: columns and sizes.
func TestColumnsAndSizes(t *testing.T) {
	for _, c := range []struct {
		e    api.Expr
		cols []int
		size int
	}{
		{con(num(1)), nil, 1}, {con(num(0)), nil, 1}, {col(0), list(0), 1}, {col(7), list(7), 1}, {not(col(3)), list(3), 2}, {op(9, con(str("a"))), nil, 2}, {and(col(2), col(1)), list(1, 2), 3}, {and(col(1), col(1)), list(1), 3}, {op(3, con(num(1)), col(0)), list(0), 3},
		{or(op(3, col(9), col(0)), and(col(9), not(col(4)))), list(0, 4, 9), 8}, {comb(30, col(5)), list(5), 59}, {chain(59, col(1000)), list(1000), 60}, {and(and(col(3), col(2)), and(col(1), col(0))), list(0, 1, 2, 3), 7},
	} {
		if l, n := expr.Columns(c.e), expr.Size(c.e); !slices.Equal(l, c.cols) || n != c.size {
			t.Errorf("Columns and Size of %s: %v, %d", spelled(c.e), l, n)
		}
	}
}

// K4: conjuncts, in their order, and no deeper than the conjunctions go.
func TestConjuncts(t *testing.T) {
	a, b, c, d := col(0), not(col(1)), or(and(col(2), col(3)), col(4)), op(3, col(5), con(num(1)))
	for _, x := range []struct {
		e api.Expr
		l []api.Expr
	}{
		{a, list(a)}, {b, list(b)}, {c, list(c)}, {con(boolean(false)), list(con(boolean(false)))}, {not(and(a, b)), list(not(and(a, b)))}, {op(9, and(a, b)), list(op(9, and(a, b)))}, {op(3, and(a, b), a), list(op(3, and(a, b), a))},
		{and(a, b), list(a, b)}, {and(b, a), list(b, a)}, {and(a, a), list(a, a)}, {and(and(a, b), c), list(a, b, c)}, {and(a, and(b, c)), list(a, b, c)}, {and(and(d, c), and(b, a)), list(d, c, b, a)}, {and(or(a, b), and(not(and(a, d)), c)), list(or(a, b), not(and(a, d)), c)}, {and(and(and(a, b), c), d), list(a, b, c, d)}, {comb(20, b), slices.Repeat(list(b), 20)},
	} {
		if l := expr.Conjuncts(x.e); !slices.EqualFunc(l, x.l, same) {
			t.Errorf("Conjuncts of %s: %v", spelled(x.e), l)
		}
	}
	if l := expr.Conjuncts(comb(30, a)); !slices.EqualFunc(l, slices.Repeat(list(a), 30), same) {
		t.Errorf("%d conjuncts of 30", len(l))
	}
}

// K5: other columns, and columns that there are not.
func TestMap(t *testing.T) {
	e := or(op(3, col(2), con(num(7))), and(col(0), not(col(2))))
	for _, c := range []struct {
		cols []int
		a, b int
	}{{list(0, 1, 2), 0, 2}, {list(2, 1, 0), 2, 0}, {list(5, -1, 5), 5, 5}, {list(0, 0, 0, -1), 0, 0}, {list(1, math.MinInt, math.MaxInt), 1, math.MaxInt}} {
		want := or(op(3, col(c.b), con(num(7))), and(col(c.a), not(col(c.b))))
		if got, x := expr.Map(e, c.cols); !same(got, want) || x != api.OK {
			t.Errorf("Map with %v: %s, %d", c.cols, spelled(got), x)
		}
	}
	for _, cols := range [][]int{nil, {}, {0}, {0, 1}, {0, 1, -1}, {-1, 1, 2}, {0, 1, math.MinInt}, {-1, -1, -1}} {
		if got, x := expr.Map(e, cols); !same(got, api.Expr{}) || x != api.ErrArg {
			t.Errorf("Map with %v: %s, %d", cols, spelled(got), x)
		}
	}
	for _, cols := range [][]int{nil, {}, {-1}, {4, 5}} {
		for _, e := range []api.Expr{con(num(5)), and(con(boolean(true)), op(9, con(str("c"))))} {
			if got, x := expr.Map(e, cols); !same(got, e) || x != api.OK {
				t.Errorf("Map of %s with %v: %s, %d", spelled(e), cols, spelled(got), x)
			}
		}
	}
}

// K6: no function changes its arguments, and what is done to a result changes neither them nor another result.
func TestNothingIsChanged(t *testing.T) {
	r := newRand()
	shared := list(col(6), col(7))
	for i := range 3000 {
		e := someExpr(r, someTypes(), 1, 1+r.IntN(40))
		if i%3 == 0 {
			// Two conjuncts that are the same memory.
			e = and(op(6, shared...), op(6, shared...))
			e = and(op(7, e.Args...), op(7, e.Args...))
		}
		was, types, row, cols := copied(e), someTypes(), someRow(r, someTypes()), r.Perm(len(someTypes()))
		wasRow, wasCols := slices.Clone(row), slices.Clone(cols)
		expr.Check(types, e)
		expr.Eval(e, row)
		expr.Holds(e, row)
		first, second := expr.Conjuncts(e), expr.Conjuncts(e)
		m, _ := expr.Map(e, cols)
		again := copied(m)
		clear(expr.Columns(e))
		for j := range first {
			rest := make([]api.Expr, 0, len(first))
			for _, x := range first[j+1:] {
				rest = append(rest, copied(x))
			}
			wipe(&first[j])
			if !slices.EqualFunc(rest, first[j+1:], same) {
				t.Errorf("conjuncts of %s share memory", spelled(was))
			}
		}
		if !same(e, was) || !same(m, again) || !slices.EqualFunc(second, modelConjuncts(was), same) {
			t.Errorf("%s became %s when conjuncts were changed", spelled(was), spelled(e))
		}
		wipe(&m)
		if !same(e, was) || !slices.Equal(types, someTypes()) || !slices.Equal(row, wasRow) || !slices.Equal(cols, wasCols) {
			t.Errorf("%s became %s, with %v, %v, %v", spelled(was), spelled(e), types, row, cols)
		}
	}
}

// wipe makes nodes of all nodes of an expression that are no nodes.
func wipe(e *api.Expr) {
	for i := range e.Args {
		wipe(&e.Args[i])
	}
	e.Args = append(e.Args, col(1))
	clear(e.Args)
	e.Op, e.C = 99, 99
}

// P1: no state is kept.
func TestCallsAgain(t *testing.T) {
	r := newRand()
	for range 300 {
		e := someExpr(r, someTypes(), 1, 30)
		row := someRow(r, someTypes())
		for range 2 {
			checkCheck(t, someTypes(), e)
			checkEval(t, e, row)
			checkParts(t, e, []int{7, 6, 5, 4, 3, 2, 1, 0})
			expr.Check(nil, e)
			expr.Eval(not(e), make([]api.Value, 8))
			expr.Map(e, nil)
		}
	}
}

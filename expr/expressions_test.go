package expr_test

import (
	"fmt"
	"math/rand/v2"
	"slices"
	"strings"

	"chapman/api"
)

// The expressions, the types and the rows that the tests try.

func newRand() *rand.Rand { return rand.New(rand.NewPCG(11, 11)) }

func null() api.Value { return api.Value{} }

func boolean(b bool) api.Value {
	if b {
		return api.Value{K: 1, I: 1}
	}
	return api.Value{K: 1}
}

func num(n int) api.Value { return api.Value{K: 2, I: n} }

func str(s string) api.Value { return api.Value{K: 3, S: s} }

func con(v api.Value) api.Expr { return api.Expr{Op: 1, K: v} }

func col(c int) api.Expr { return api.Expr{Op: 2, C: c} }

func op(o int, args ...api.Expr) api.Expr { return api.Expr{Op: o, Args: args} }

func and(a, b api.Expr) api.Expr { return op(6, a, b) }

func or(a, b api.Expr) api.Expr { return op(7, a, b) }

func not(a api.Expr) api.Expr { return op(8, a) }

func list[T any](l ...T) []T { return l }

func bit(nullable bool) api.Type { return api.Type{K: 1, Null: nullable} }

func number(scale int, nullable bool) api.Type { return api.Type{K: 2, Scale: scale, Null: nullable} }

func text(nullable bool) api.Type { return api.Type{K: 3, Null: nullable} }

// copied returns a copy of e that shares no memory with it.
func copied(e api.Expr) api.Expr {
	args := make([]api.Expr, len(e.Args))
	for i, a := range e.Args {
		args[i] = copied(a)
	}
	e.Args = args
	return e
}

// same reports whether two expressions are the same.
func same(a, b api.Expr) bool {
	return a.Op == b.Op && a.C == b.C && a.K == b.K && slices.EqualFunc(a.Args, b.Args, same)
}

// spelled returns an expression as a text, for a message.
func spelled(e api.Expr) string {
	names := [...]string{"?", "const", "col", "eq", "lt", "le", "and", "or", "not", "isnull", "add", "sub", "prefix"}
	s := fmt.Sprint(e.Op)
	if e.Op >= 0 && e.Op < len(names) {
		s = names[e.Op]
	}
	if e.C != 0 || e.Op == 2 {
		s += fmt.Sprint(" c", e.C)
	}
	if e.K != (api.Value{}) {
		s += fmt.Sprint(" ", e.K)
	}
	for i, a := range e.Args {
		if i == 80 {
			s += " ..."
			break
		}
		s += " (" + spelled(a) + ")"
	}
	return s
}

// chain returns e in so many negations.
func chain(n int, e api.Expr) api.Expr {
	for range n {
		e = not(e)
	}
	return e
}

// comb returns the conjunction of so many expressions, each one ahead of the conjunction of those behind it.
func comb(n int, e api.Expr) api.Expr {
	all := e
	for range n - 1 {
		all = and(e, all)
	}
	return all
}

// balanced returns a disjunction of so many expressions that is as flat as it can be.
func balanced(n int, e api.Expr) api.Expr {
	if n == 1 {
		return e
	}
	return or(balanced(n/2, e), balanced(n-n/2, e))
}

// eachOf yields all expressions of exactly n nodes with these leaves, well-formed or not.
func eachOf(leaves []api.Expr, n int, yield func(e api.Expr)) {
	if n == 1 {
		for _, e := range leaves {
			yield(e)
		}
		return
	}
	eachOf(leaves, n-1, func(a api.Expr) {
		yield(op(8, a))
		yield(op(9, a))
	})
	for left := 1; left < n-1; left++ {
		eachOf(leaves, left, func(a api.Expr) {
			eachOf(leaves, n-1-left, func(b api.Expr) {
				for _, o := range []int{3, 4, 5, 6, 7, 10, 11, 12} {
					yield(op(o, a, b))
				}
			})
		})
	}
}

// someTypes are columns of all kinds, with and without null.
func someTypes() []api.Type {
	return []api.Type{number(2, false), number(6, true), number(0, true), text(false), text(true), bit(false), bit(true), bit(true)}
}

// someValue returns a value that fits the type, often one of few.
func someValue(r *rand.Rand, t api.Type) api.Value {
	if t.Null && r.IntN(4) == 0 {
		return null()
	}
	switch t.K {
	case 1:
		return boolean(r.IntN(2) == 0)
	case 2:
		return num(someNumber(r, []int{1000000, 100000, 10000, 1000, 100, 10, 1}[t.Scale]))
	}
	return str(someText(r))
}

// someNumber returns a multiple of the unit, often one that is small or as large as it may be.
func someNumber(r *rand.Rand, unit int) int {
	n := [...]int{r.IntN(5) - 2, mostSum/unit - r.IntN(3), -mostSum/unit + r.IntN(3), mostSum/unit/2 + r.IntN(3) - 1, r.IntN(2*mostSum/unit) - mostSum/unit, r.IntN(100) * 10, mostNumber/unit + r.IntN(3) - 1}[r.IntN(7)]
	return max(-mostSum/unit, min(mostSum/unit, n)) * unit
}

func someText(r *rand.Rand) string {
	s := ""
	for range r.IntN(4) {
		s += string("ab~ "[r.IntN(4)])
	}
	if r.IntN(20) == 0 {
		s = (s + strings.Repeat("ab", 20))[:40]
	}
	return s
}

func someRow(r *rand.Rand, types []api.Type) []api.Value {
	var row []api.Value
	for _, t := range types {
		row = append(row, someValue(r, t))
	}
	return row
}

// someExpr returns a well-formed expression of the kind with at most n nodes.
func someExpr(r *rand.Rand, types []api.Type, kind, n int) api.Expr {
	if n < 2 || r.IntN(8) == 0 {
		return someLeaf(r, types, kind)
	}
	left := 1 + r.IntN(max(1, n-2))
	right := n - 1 - left
	two := func(o, kind int) api.Expr {
		if right < 1 {
			return someLeaf(r, types, kind)
		}
		return op(o, someExpr(r, types, kind, left), someExpr(r, types, kind, right))
	}
	switch kind {
	case 2:
		return two(10+r.IntN(2), 2)
	case 3:
		return someLeaf(r, types, 3)
	}
	switch r.IntN(8) {
	case 0:
		return not(someExpr(r, types, 1, n-1))
	case 1:
		return op(9, someExpr(r, types, 1+r.IntN(3), n-1))
	case 2:
		if right < 1 {
			return someLeaf(r, types, 1)
		}
		return two(12, 3)
	case 3, 4:
		if right < 1 {
			return someLeaf(r, types, 1)
		}
		return two(3+r.IntN(3), 1+r.IntN(3))
	}
	return two(6+r.IntN(2), 1)
}

// someLeaf returns a column of the kind, or a constant.
func someLeaf(r *rand.Rand, types []api.Type, kind int) api.Expr {
	if c := r.IntN(len(types)); types[c].K == kind && r.IntN(4) > 0 {
		return col(c)
	}
	for range 8 {
		if c := r.IntN(len(types)); types[c].K == kind {
			return col(c)
		}
	}
	if kind == 2 {
		return con(num(max(-mostNumber, min(mostNumber, someNumber(r, []int{1000000, 1000, 1}[r.IntN(3)])))))
	}
	return con(someValue(r, api.Type{K: kind}))
}

// spoiled returns a copy of e in which one thing is changed, mostly to something that is not well-formed.
func spoiled(r *rand.Rand, e api.Expr) api.Expr {
	e = copied(e)
	at := &e
	for len(at.Args) > 0 && r.IntN(4) > 0 {
		at = &at.Args[r.IntN(len(at.Args))]
	}
	switch r.IntN(6) {
	case 0:
		at.Op = r.IntN(16) - 2
	case 1:
		at.C += []int{-1, 1, 7, -1 << 63, 1<<63 - 1}[r.IntN(5)]
	case 2:
		at.K = []api.Value{{}, {I: 1}, {S: "a"}, {K: 1}, {K: 1, I: 2}, {K: 2, I: mostNumber + 1}, {K: 2, S: "a"}, {K: 3}, {K: 3, I: 1}, {K: 3, S: "\x7f"}, {K: 4}, {K: -1}}[r.IntN(12)]
	case 3:
		at.Args = append(at.Args, con(boolean(true)))
	case 4:
		at.Args = at.Args[:len(at.Args)/2]
	default:
		at.Args = append(at.Args, copied(e))
	}
	return e
}

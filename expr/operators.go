package expr

import (
	"slices"
	"strings"

	"chapman/api"
	"chapman/decimal"
	"chapman/value"
)

// The places of the values of conditions in truths.
const (
	no      = 0
	unknown = 1
	yes     = 2
)

// truths has the values of conditions in the order in which a conjunction is the least one of its arguments, and a disjunction the greatest one.
var truths = [3]api.Value{{K: api.VBool, I: 0}, {}, {K: api.VBool, I: 1}}

// operator is what an expression does with its arguments.
type operator struct {
	args    int                            // how many there are
	accepts func(t []api.Type) bool        // whether they may have these types
	gives   func(t []api.Type) api.Type    // the type for these types
	value   func(v [2]api.Value) api.Value // the value for these values, of which a single argument has the first one
}

func operators() map[int]operator {
	return map[int]operator{
		api.EEq:     {2, alike, condition, compared(func(c int) bool { return c == 0 })},
		api.ELt:     {2, alike, condition, compared(func(c int) bool { return c < 0 })},
		api.ELe:     {2, alike, condition, compared(func(c int) bool { return c <= 0 })},
		api.EAnd:    {2, all(api.VBool), condition, conjunction},
		api.EOr:     {2, all(api.VBool), condition, disjunction},
		api.ENot:    {1, all(api.VBool), condition, negation},
		api.EIsNull: {1, alike, certainty, isNull},
		api.EAdd:    {2, all(api.VNum), number, known(sum)},
		api.ESub:    {2, all(api.VNum), number, known(difference)},
		api.EPrefix: {2, all(api.VText), condition, known(begins)},
	}
}

// alike reports whether all types have the same kind.
func alike(t []api.Type) bool {
	return all(t[0].K)(t)
}

// all returns the function that reports whether all types have the kind.
func all(kind int) func(t []api.Type) bool {
	return func(t []api.Type) bool {
		return !slices.ContainsFunc(t, func(t api.Type) bool { return t.K != kind })
	}
}

// condition returns the type of a condition that may be null if an argument may.
func condition(t []api.Type) api.Type {
	return api.Type{K: api.VBool, Null: slices.ContainsFunc(t, func(t api.Type) bool { return t.Null })}
}

// certainty returns the type of a condition that is never null.
func certainty([]api.Type) api.Type {
	return api.Type{K: api.VBool}
}

// number returns the type of a sum or a difference, which is null if it is too great.
func number(t []api.Type) api.Type {
	return api.Type{K: api.VNum, Scale: max(t[0].Scale, t[1].Scale), Null: true}
}

// known returns the function that is null if an argument is, and otherwise what f is.
func known(f func(a, b api.Value) api.Value) func(v [2]api.Value) api.Value {
	return func(v [2]api.Value) api.Value {
		if v[0].K == api.VNull || v[1].K == api.VNull {
			return api.Value{}
		}
		return f(v[0], v[1])
	}
}

// compared returns the comparison that is true if test accepts what value.Cmp says.
func compared(test func(c int) bool) func(v [2]api.Value) api.Value {
	return known(func(a, b api.Value) api.Value { return truth(test(value.Cmp(a, b))) })
}

func conjunction(v [2]api.Value) api.Value {
	return truths[min(place(v[0]), place(v[1]))]
}

func disjunction(v [2]api.Value) api.Value {
	return truths[max(place(v[0]), place(v[1]))]
}

func negation(v [2]api.Value) api.Value {
	return truths[yes-place(v[0])]
}

func isNull(v [2]api.Value) api.Value {
	return truth(v[0].K == api.VNull)
}

func sum(a, b api.Value) api.Value {
	return total(a.I, b.I)
}

func difference(a, b api.Value) api.Value {
	return total(a.I, -b.I)
}

// total returns the sum of the numbers, and null if its size exceeds api.MaxSum.
func total(l ...int) api.Value {
	n, e := decimal.Sum(l)
	if e != api.OK {
		return api.Value{}
	}
	return api.Value{K: api.VNum, I: n}
}

func begins(a, b api.Value) api.Value {
	return truth(strings.HasPrefix(a.S, b.S))
}

// truth returns the value of a condition that is not null.
func truth(b bool) api.Value {
	if b {
		return truths[yes]
	}
	return truths[no]
}

// place returns the place of the value of a condition in truths.
func place(v api.Value) int {
	switch v {
	case truths[no]:
		return no
	case truths[yes]:
		return yes
	}
	return unknown
}

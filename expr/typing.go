package expr

import (
	"chapman/api"
	"chapman/value"
)

// typing looks for the types of expressions over columns of these types.
type typing struct {
	types     []api.Type
	operators map[int]operator
}

// typeOf returns the type of e, and whether it is well-formed; it does not count nodes.
func (t typing) typeOf(e api.Expr) (api.Type, bool) {
	noColumn, noConstant, noArgs := e.C == 0, e.K == api.Value{}, len(e.Args) == 0
	switch e.Op {
	case api.EConst:
		typ, ok := typeOfConstant(e.K)
		return typ, ok && noColumn && noArgs
	case api.ECol:
		typ, ok := t.typeOfColumn(e.C)
		return typ, ok && noConstant && noArgs
	}
	o, ok := t.operators[e.Op]
	if !ok || !noColumn || !noConstant || len(e.Args) != o.args {
		return api.Type{}, false
	}
	args := make([]api.Type, o.args)
	for i, a := range e.Args {
		if args[i], ok = t.typeOf(a); !ok {
			return api.Type{}, false
		}
	}
	if !o.accepts(args) {
		return api.Type{}, false
	}
	return o.gives(args), true
}

func (t typing) typeOfColumn(c int) (api.Type, bool) {
	if !isIndex(c, len(t.types)) {
		return api.Type{}, false
	}
	return t.types[c], value.ValidType(t.types[c])
}

// typeOfConstant returns the type with the least scale that has v but not null, and whether there is one.
func typeOfConstant(v api.Value) (api.Type, bool) {
	for scale := range api.MaxScale + 1 {
		if t := (api.Type{K: v.K, Scale: scale}); value.Has(t, v) {
			return t, true
		}
	}
	return api.Type{}, false
}

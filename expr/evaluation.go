package expr

import "chapman/api"

// evaluation computes the values of expressions for a row.
type evaluation struct {
	row       []api.Value
	operators map[int]operator
}

// valueOf returns the value of e, and null for what is not well-formed.
func (r evaluation) valueOf(e api.Expr) api.Value {
	switch {
	case e.Op == api.EConst:
		return e.K
	case e.Op == api.ECol && isIndex(e.C, len(r.row)):
		return r.row[e.C]
	}
	o, ok := r.operators[e.Op]
	if !ok || len(e.Args) != o.args {
		return api.Value{}
	}
	var args [2]api.Value
	for i, a := range e.Args {
		args[i] = r.valueOf(a)
	}
	return o.value(args)
}

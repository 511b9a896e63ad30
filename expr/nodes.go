package expr

import (
	"iter"
	"slices"

	"chapman/api"
)

// nodes yields e and the nodes of its Args, each one ahead of those of its Args. It ends one node beyond api.MaxNodes, because what is not well-formed might have no end: its Args might contain themselves.
func nodes(e api.Expr) iter.Seq[api.Expr] {
	return func(yield func(e api.Expr) bool) {
		left := api.MaxNodes + 1
		var visit func(e api.Expr) bool
		visit = func(e api.Expr) bool {
			if left == 0 || !yield(e) {
				return false
			}
			left--
			for _, a := range e.Args {
				if !visit(a) {
					return false
				}
			}
			return true
		}
		visit(e)
	}
}

// large reports whether e has more nodes than a well-formed expression; only one that is not large may be walked through to its end.
func large(e api.Expr) bool {
	return Size(e) > api.MaxNodes
}

// renumbered returns a copy of e, which shares no memory with it, with another number for each column.
func renumbered(e api.Expr, column func(c int) int) api.Expr {
	if e.Op == api.ECol {
		e.C = column(e.C)
	}
	e.Args = slices.Clone(e.Args)
	for i, a := range e.Args {
		e.Args[i] = renumbered(a, column)
	}
	return e
}

func isIndex(c, length int) bool {
	return 0 <= c && c < length
}

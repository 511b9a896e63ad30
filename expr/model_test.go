package expr_test

import (
	"math/big"
	"regexp"
	"slices"
	"strconv"
	"strings"

	"chapman/api"
)

// The model writes an expression as a list of nodes in which each one stands behind its arguments, and works it off with a stack; kinds are letters that are matched with patterns, null is a set of two bools, and numbers are as large as they get. It uses no code of the package, so that no mistake is made twice.

const (
	mostNodes  = 60
	mostNumber = 1000000000000000
	mostSum    = 4000000000000000000
)

// node is an expression without its arguments, of which there are so many.
type node struct {
	op, c int
	k     api.Value
	args  int
}

// modelNodes returns the nodes of e, each behind its arguments; false if there are more than so many of them.
func modelNodes(e api.Expr, most int) ([]node, bool) {
	var l []node
	for todo := []api.Expr{e}; len(todo) > 0; {
		last := todo[len(todo)-1]
		todo = append(todo[:len(todo)-1], last.Args...)
		if l = append(l, node{last.Op, last.C, last.K, len(last.Args)}); len(l) > most {
			return nil, false
		}
	}
	slices.Reverse(l)
	return l, true
}

// accepted has, for each operator, the letters of the kinds of arguments that it takes.
var accepted = map[int]*regexp.Regexp{
	1: regexp.MustCompile(`^$`), 2: regexp.MustCompile(`^$`),
	3: regexp.MustCompile(`^(bb|nn|tt)$`), 4: regexp.MustCompile(`^(bb|nn|tt)$`), 5: regexp.MustCompile(`^(bb|nn|tt)$`),
	6: regexp.MustCompile(`^bb$`), 7: regexp.MustCompile(`^bb$`), 8: regexp.MustCompile(`^b$`), 9: regexp.MustCompile(`^[bnt]$`),
	10: regexp.MustCompile(`^nn$`), 11: regexp.MustCompile(`^nn$`), 12: regexp.MustCompile(`^tt$`),
}

var letters = map[int]string{1: "b", 2: "n", 3: "t"}

// modelCheck returns the type of e, and whether it is well-formed.
func modelCheck(types []api.Type, e api.Expr) (api.Type, bool) {
	l, ok := modelNodes(e, mostNodes)
	if !ok {
		return api.Type{}, false
	}
	var stack []api.Type
	for _, n := range l {
		args := stack[len(stack)-n.args:]
		t, ok := modelType(types, n, args)
		if !ok {
			return api.Type{}, false
		}
		stack = append(stack[:len(stack)-n.args], t)
	}
	return stack[0], true
}

func modelType(types []api.Type, n node, args []api.Type) (api.Type, bool) {
	kinds, null, scale := "", false, 0
	for _, a := range args {
		kinds += letters[a.K]
		null = null || a.Null
		scale = max(scale, a.Scale)
	}
	pattern := accepted[n.op]
	if pattern == nil || !pattern.MatchString(kinds) || n.op != 1 && n.k != (api.Value{}) || n.op != 2 && n.c != 0 {
		return api.Type{}, false
	}
	switch n.op {
	case 1:
		return modelConstant(n.k)
	case 2:
		if n.c < 0 || n.c >= len(types) {
			return api.Type{}, false
		}
		t := types[n.c]
		return t, t.K == 2 && t.Scale >= 0 && t.Scale <= 6 || (t.K == 1 || t.K == 3) && t.Scale == 0
	case 9:
		return api.Type{K: 1}, true
	case 10, 11:
		return api.Type{K: 2, Scale: scale, Null: true}, true
	}
	return api.Type{K: 1, Null: null}, true
}

var constantText = regexp.MustCompile(`^[ -~]{0,40}$`)

// modelConstant returns the type of a constant, and whether there may be one: the places of a number are those of its spelling without the zeros at the end.
func modelConstant(v api.Value) (api.Type, bool) {
	switch v {
	case api.Value{K: 1, I: 0}, api.Value{K: 1, I: 1}:
		return api.Type{K: 1}, true
	case api.Value{K: 2, I: v.I}:
		places := strings.TrimRight(strconv.Itoa(v.I%1000000 + 3000000)[1:], "0")
		return api.Type{K: 2, Scale: len(places)}, max(v.I, -v.I) <= mostNumber && v.I != -v.I || v.I == 0
	case api.Value{K: 3, S: v.S}:
		return api.Type{K: 3}, constantText.MatchString(v.S)
	}
	return api.Type{}, false
}

// modelEval returns the value of a well-formed expression for a row.
func modelEval(e api.Expr, row []api.Value) api.Value {
	l, _ := modelNodes(e, mostNodes)
	var stack []api.Value
	for _, n := range l {
		args := slices.Clone(stack[len(stack)-n.args:])
		stack = append(stack[:len(stack)-n.args], modelValue(n, args, row))
	}
	return stack[0]
}

func modelValue(n node, args, row []api.Value) api.Value {
	switch n.op {
	case 1:
		return n.k
	case 2:
		return row[n.c]
	case 6:
		return combined(args, func(a, b bool) bool { return a && b })
	case 7:
		return combined(args, func(a, b bool) bool { return a || b })
	case 8:
		return combined(append(args, args[0]), func(a, _ bool) bool { return !a })
	case 9:
		return boolean(args[0] == api.Value{})
	}
	if slices.Contains(args, api.Value{}) {
		return api.Value{}
	}
	a, b := args[0], args[1]
	switch n.op {
	case 3:
		return boolean(a == b)
	case 4:
		return boolean(modelLess(a, b))
	case 5:
		return boolean(!modelLess(b, a))
	case 10:
		return modelNumber(new(big.Int).Add(big.NewInt(int64(a.I)), big.NewInt(int64(b.I))))
	case 11:
		return modelNumber(new(big.Int).Sub(big.NewInt(int64(a.I)), big.NewInt(int64(b.I))))
	}
	return boolean(len(a.S) >= len(b.S) && a.S[:len(b.S)] == b.S)
}

// combined returns what f is, whichever bools stand in the place of nulls, and null if that depends on them.
func combined(args []api.Value, f func(a, b bool) bool) api.Value {
	found := map[bool]bool{}
	for _, a := range bools(args[0]) {
		for _, b := range bools(args[1]) {
			found[f(a, b)] = true
		}
	}
	if len(found) == 2 {
		return api.Value{}
	}
	return boolean(found[true])
}

// bools returns the bools that may stand in the place of a value.
func bools(v api.Value) []bool {
	if v.K == 0 {
		return []bool{false, true}
	}
	return []bool{v.I == 1}
}

// modelLess compares numbers of any size, and texts byte by byte.
func modelLess(a, b api.Value) bool {
	if c := big.NewInt(int64(a.I)).Cmp(big.NewInt(int64(b.I))); c != 0 {
		return c < 0
	}
	for i := range min(len(a.S), len(b.S)) {
		if a.S[i] != b.S[i] {
			return a.S[i] < b.S[i]
		}
	}
	return len(a.S) < len(b.S)
}

func modelNumber(n *big.Int) api.Value {
	if n.CmpAbs(big.NewInt(mostSum)) > 0 {
		return api.Value{}
	}
	return num(int(n.Int64()))
}

func modelColumns(e api.Expr) []int {
	var l []int
	nodes, _ := modelNodes(e, mostNodes)
	for _, n := range nodes {
		if at, found := slices.BinarySearch(l, n.c); n.op == 2 && !found {
			l = slices.Insert(l, at, n.c)
		}
	}
	return l
}

// modelConjuncts replaces the first conjunction by its arguments as long as there is one.
func modelConjuncts(e api.Expr) []api.Expr {
	l := []api.Expr{e}
	for {
		at := slices.IndexFunc(l, func(e api.Expr) bool { return e.Op == 6 })
		if at < 0 {
			return l
		}
		l = slices.Replace(l, at, at+1, slices.Clone(l[at].Args)...)
	}
}

// modelMap copies e, and then changes the columns of the copy one by one.
func modelMap(e api.Expr, cols []int) (api.Expr, api.Errno) {
	e = copied(e)
	for todo := []*api.Expr{&e}; len(todo) > 0; todo = todo[1:] {
		x := todo[0]
		if x.Op == 2 && (x.C >= len(cols) || cols[x.C] < 0) {
			return api.Expr{}, api.ErrArg
		}
		if x.Op == 2 {
			x.C = cols[x.C]
		}
		for i := range x.Args {
			todo = append(todo, &x.Args[i])
		}
	}
	return e, api.OK
}

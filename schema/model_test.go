package schema_test

import (
	"fmt"
	"regexp"
	"slices"

	"chapman/api"
)

// The model spells a table as a text, with a letter for each kind and each rule, and matches it with the pattern of its kind; references are sets of columns, and what they lead to is found by a matrix. It uses no code of the package, so that no mistake is made twice.

var nameText = regexp.MustCompile(`\A[a-z][a-z0-9]{0,15}\z`)

const (
	keyText   = `(?:b0|n[0-6]|t0)!p`
	plainText = `(?:b0|n[0-6]|t0)[!?]p`
	countText = `n[0-6]!c`
	shareText = `n[0-6]!s`
)

// tableTexts has the pattern of each kind of table: what stands ahead of the sign | is its key.
var tableTexts = [...]*regexp.Regexp{
	regexp.MustCompile(`^(` + keyText + `){1,2}\|(` + plainText + `|` + countText + `)*$`),
	regexp.MustCompile(`^n0!p(` + keyText + `)?\|(` + plainText + `|` + countText + `)*(` + shareText + `)?(` + plainText + `|` + countText + `)*$`),
	regexp.MustCompile(`^(` + keyText + `){1,2}\|$`),
}

// typeText returns a type without its null.
func typeText(t api.Type) string {
	letters := map[int]string{1: "b", 2: "n", 3: "t"}
	return fmt.Sprint(letters[t.K], t.Scale)
}

func columnText(c api.Column) string {
	null, rule := "!", map[int]string{0: "p", 1: "c", 2: "s"}[c.Rule]
	if c.Type.Null {
		null = "?"
	}
	if c.Rule == 2 && c.Default.I < 0 {
		rule = "negative"
	}
	return typeText(c.Type) + null + rule
}

func modelName(s string) bool { return nameText.MatchString(s) }

func modelTable(t api.Table) bool {
	if t.Kind < 0 || t.Kind > 2 || len(t.Columns) > 8 || !modelName(t.Name) {
		return false
	}
	text, names := "", map[string]bool{}
	for i, c := range t.Columns {
		if !modelName(c.Name) || names[c.Name] || !modelHas(c.Type, c.Default) {
			return false
		}
		names[c.Name] = true
		text += columnText(c)
		if i+1 == t.Key {
			text += "|"
		}
	}
	return tableTexts[t.Kind].MatchString(text)
}

var defaultText = regexp.MustCompile(`\A[ -~]{0,40}\z`)

// modelHas reports whether a type that is valid has v.
func modelHas(t api.Type, v api.Value) bool {
	units := map[int]int{0: 1000000, 1: 100000, 2: 10000, 3: 1000, 4: 100, 5: 10, 6: 1}
	switch v {
	case api.Value{}:
		return t.Null
	case api.Value{K: 1, I: v.I}:
		return t.K == 1 && (v.I == 0 || v.I == 1)
	case api.Value{K: 2, I: v.I}:
		return t.K == 2 && units[t.Scale] > 0 && v.I%units[t.Scale] == 0 && -mostNumber <= v.I && v.I <= mostNumber
	case api.Value{K: 3, S: v.S}:
		return t.K == 3 && defaultText.MatchString(v.S)
	}
	return false
}

// modelColumns returns the columns of r and those that they refer to, in pairs; false if one of them is not there, or there is no such table.
func modelColumns(s api.Schema, r api.Reference) ([][2]api.Column, bool) {
	var pairs [][2]api.Column
	tables := map[int]api.Table{}
	for i, t := range s.Tables {
		tables[i] = t
	}
	from, here := tables[r.Table]
	to, there := tables[r.To]
	if !here || !there {
		return nil, false
	}
	columns := map[int]api.Column{}
	for i, c := range from.Columns {
		columns[i] = c
	}
	for i := range to.Key {
		c, ok := columns[r.Column+i]
		if !ok {
			return nil, false
		}
		pairs = append(pairs, [2]api.Column{c, to.Columns[i]})
	}
	return pairs, true
}

// modelIsKey reports whether a reference, whose columns are there, is a key reference.
func modelIsKey(s api.Schema, r api.Reference) bool {
	key := map[int]bool{}
	for i := range s.Tables[r.Table].Key {
		key[i] = true
	}
	for i := range s.Tables[r.To].Key {
		if !key[r.Column+i] {
			return false
		}
	}
	return true
}

func modelReference(s api.Schema, r api.Reference) bool {
	pairs, ok := modelColumns(s, r)
	if !ok || s.Tables[r.Table].Kind == 2 || s.Tables[r.To].Kind == 2 {
		return false
	}
	for _, p := range pairs {
		if p[0].Rule != 0 || typeText(p[0].Type) != typeText(p[1].Type) {
			return false
		}
	}
	return !modelIsKey(s, r) || r.Table > r.To
}

func modelTotal(s api.Schema, t api.Total) bool {
	for i, table := range s.Tables {
		for j, c := range table.Columns {
			if i == t.Table && j == t.Column {
				return c.Type.K == 2 && (c.Rule == 0 || c.Rule == 1) && t.Lo >= -mostSum && t.Lo <= 0 && t.Hi <= mostSum && t.Hi >= 0
			}
		}
	}
	return false
}

// modelErased has, for each table, whether it can be erased: what refers by its key to a table that can is added until nothing is left to add.
func modelErased(s api.Schema) []bool {
	var l []bool
	for _, t := range s.Tables {
		l = append(l, t.Erase)
	}
	for range s.Tables {
		for _, r := range s.Refs {
			l[r.Table] = l[r.Table] || l[r.To] && modelIsKey(s, r)
		}
	}
	return l
}

func modelValid(s api.Schema) bool {
	if len(s.Tables) == 0 || len(s.Tables) > 4 || len(s.Refs) > 8 || len(s.Totals) > 8 {
		return false
	}
	names := map[string]bool{}
	for _, t := range s.Tables {
		names[t.Name] = true
	}
	if len(names) < len(s.Tables) || slices.ContainsFunc(s.Tables, func(t api.Table) bool { return !modelTable(t) }) {
		return false
	}
	if slices.ContainsFunc(s.Refs, func(r api.Reference) bool { return !modelReference(s, r) }) {
		return false
	}
	erased := modelErased(s)
	if slices.ContainsFunc(s.Refs, func(r api.Reference) bool { return erased[r.To] && !modelIsKey(s, r) }) {
		return false
	}
	return !slices.ContainsFunc(s.Totals, func(t api.Total) bool { return !modelTotal(s, t) })
}

// modelKeys returns the key references of a table of a valid schema.
func modelKeys(s api.Schema, table int) []int {
	var l []int
	for i := range s.Refs {
		if r := s.Refs[i]; r.Table == table && modelIsKey(s, r) {
			l = append(l, i)
		}
	}
	return l
}

// modelParents returns the tables that are reached from a table of a valid schema, by the closure of a matrix.
func modelParents(s api.Schema, table int) []int {
	var leads [4][4]bool
	for _, r := range s.Refs {
		leads[r.Table][r.To] = leads[r.Table][r.To] || modelIsKey(s, r)
	}
	for by := range leads {
		for from := range leads {
			for to := range leads {
				leads[from][to] = leads[from][to] || leads[from][by] && leads[by][to]
			}
		}
	}
	var l []int
	for to := range leads {
		if table >= 0 && table < 4 && leads[table][to] {
			l = append(l, to)
		}
	}
	return l
}

// modelShare returns the last column of a table that is a stock: there is one at most.
func modelShare(s api.Schema, table int) int {
	at := -1
	for i, t := range s.Tables {
		for j, c := range t.Columns {
			if i == table && c.Rule == 2 {
				at = j
			}
		}
	}
	return at
}

func modelBound(s api.Schema, table, column int) bool {
	bound := map[[2]int]bool{}
	for _, t := range s.Totals {
		bound[[2]int{t.Table, t.Column}] = true
	}
	return bound[[2]int{table, column}]
}

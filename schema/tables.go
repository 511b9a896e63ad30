package schema

import (
	"chapman/api"
	"chapman/value"
)

// maxKey is the greatest number of key columns of a table.
const maxKey = 2

// hasTables reports whether all tables are valid and have different names.
func hasTables(s api.Schema) bool {
	for i, t := range s.Tables {
		if !validTable(t) || Find(s, t.Name) != i {
			return false
		}
	}
	return true
}

func validTable(t api.Table) bool {
	// The shape comes first: the checks behind it rely on there being the key columns.
	for _, check := range [...]func(t api.Table) bool{hasShape, hasNames, hasColumns, hasKey, fitsKind, hasNumbers, hasStock} {
		if !check(t) {
			return false
		}
	}
	return true
}

// hasShape reports whether the numbers of columns and of key columns, of which there is at least one, and the kind are in their ranges.
func hasShape(t api.Table) bool {
	n := len(t.Columns)
	return n <= api.MaxColumns && 1 <= t.Key && t.Key <= min(n, maxKey) && api.TableFree <= t.Kind && t.Kind <= api.TableSet
}

func hasNames(t api.Table) bool {
	for i, c := range t.Columns {
		if !Name(c.Name) || FindColumn(t, c.Name) != i {
			return false
		}
	}
	return Name(t.Name)
}

// hasColumns reports whether each column has a rule and a valid type, which has the default.
func hasColumns(t api.Table) bool {
	return every(t.Columns, func(c api.Column) bool {
		return value.Has(c.Type, c.Default) && api.RulePlain <= c.Rule && c.Rule <= api.RuleShare
	})
}

func hasKey(t api.Table) bool {
	return every(t.Columns[:t.Key], func(c api.Column) bool { return c.Rule == api.RulePlain && !c.Type.Null })
}

func fitsKind(t api.Table) bool {
	switch t.Kind {
	case api.TableKeep:
		station := t.Columns[0].Type
		return station.K == api.VNum && station.Scale == 0
	case api.TableSet:
		return t.Key == len(t.Columns)
	}
	return true
}

// hasNumbers reports whether counters and stocks are numbers, and not null.
func hasNumbers(t api.Table) bool {
	return every(t.Columns, func(c api.Column) bool {
		return c.Rule == api.RulePlain || c.Type.K == api.VNum && !c.Type.Null
	})
}

// hasStock reports whether there is no stock, or a single one that may be there.
func hasStock(t api.Table) bool {
	at := first(t.Columns, isShare)
	if at < 0 {
		return true
	}
	return t.Kind == api.TableKeep && t.Columns[at].Default.I >= 0 && first(t.Columns[at+1:], isShare) < 0
}

func isShare(c api.Column) bool { return c.Rule == api.RuleShare }

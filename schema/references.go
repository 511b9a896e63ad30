package schema

import "chapman/api"

// Greatest numbers of references and of totals of a schema.
const (
	maxReferences = 8
	maxTotals     = 8
)

func hasSizes(s api.Schema) bool {
	return 1 <= len(s.Tables) && len(s.Tables) <= api.MaxTables && len(s.Refs) <= maxReferences && len(s.Totals) <= maxTotals
}

// hasReferences reports whether all references are valid, and those to tables that can be erased are key references: their rows go with those that they refer to.
func hasReferences(s api.Schema) bool {
	valid := func(r api.Reference) bool { return validReference(s, r) }
	erased := func(r api.Reference) bool { return isKeyReference(s, r) || !CanErase(s, r.To) }
	return every(s.Refs, valid) && every(s.Refs, erased)
}

func validReference(s api.Schema, r api.Reference) bool {
	if !isIndex(r.Table, len(s.Tables)) || !isIndex(r.To, len(s.Tables)) {
		return false
	}
	from, to := s.Tables[r.Table], s.Tables[r.To]
	if from.Kind == api.TableSet || to.Kind == api.TableSet || !isIndex(r.Column, len(from.Columns)-to.Key+1) {
		return false
	}
	for i, k := range to.Columns[:to.Key] {
		c := from.Columns[r.Column+i]
		if c.Rule != api.RulePlain || c.Type.K != k.Type.K || c.Type.Scale != k.Type.Scale {
			return false
		}
	}
	return r.To < r.Table || !isKeyReference(s, r)
}

// isKeyReference reports whether all columns of r are key columns, and false if a table of r is not there.
func isKeyReference(s api.Schema, r api.Reference) bool {
	if !isIndex(r.Table, len(s.Tables)) || !isIndex(r.To, len(s.Tables)) {
		return false
	}
	return isIndex(r.Column, s.Tables[r.Table].Key-s.Tables[r.To].Key+1)
}

// hasTotals reports whether each total bounds the sum of numbers by a range that has 0, the sum of no rows.
func hasTotals(s api.Schema) bool {
	return every(s.Totals, func(t api.Total) bool {
		if !isIndex(t.Table, len(s.Tables)) || !isIndex(t.Column, len(s.Tables[t.Table].Columns)) {
			return false
		}
		c := s.Tables[t.Table].Columns[t.Column]
		return c.Type.K == api.VNum && !isShare(c) && -api.MaxSum <= t.Lo && t.Lo <= 0 && 0 <= t.Hi && t.Hi <= api.MaxSum
	})
}

package schema_test

import (
	"slices"
	"strings"
	"testing"

	"chapman/api"
	"chapman/schema"
)

// These tests are for P12.2 to P12.6 of the document.

// eachSchema yields valid schemas.
func eachSchema(n int, yield func(s api.Schema)) {
	r := newRand()
	for _, s := range []api.Schema{shop(), line()} {
		yield(s)
	}
	for range n {
		yield(someSchema(r))
	}
}

func checkStays(t *testing.T, s api.Schema, valid bool, what string) {
	t.Helper()
	want := api.ErrSchema
	if valid {
		want = api.OK
	}
	if got := schema.Valid(s); got != want {
		t.Errorf("%s: Valid(%+v): %d", what, s, got)
	}
}

// P12.2: other names that are different, and equal ones.
func TestOtherNames(t *testing.T) {
	r := newRand()
	twice := 0
	eachSchema(3000, func(was api.Schema) {
		s := copied(was)
		tables := someNames(r, len(s.Tables))
		for i := range s.Tables {
			s.Tables[i].Name = tables[i]
			for j, name := range someNames(r, len(s.Tables[i].Columns)) {
				s.Tables[i].Columns[j].Name = name
				if got := schema.FindColumn(s.Tables[i], name); got != j {
					t.Errorf("the column %q of %+v is found at %d", name, s.Tables[i], got)
				}
			}
			if got := schema.Find(s, tables[i]); got != i {
				t.Errorf("the table %q of %+v is found at %d", tables[i], s, got)
			}
		}
		checkStays(t, s, true, "other names")
		checkParts(t, s)
		for i := range s.Tables {
			for j := range i {
				other := copied(s)
				other.Tables[i].Name = other.Tables[j].Name
				checkStays(t, other, false, "two tables with the same name")
				twice++
			}
			for j := range s.Tables[i].Columns {
				for k := range j {
					other := copied(s)
					other.Tables[i].Columns[j].Name = other.Tables[i].Columns[k].Name
					checkStays(t, other, false, "two columns with the same name")
					twice++
				}
			}
		}
	})
	if twice < 10000 {
		t.Errorf("only %d names were put twice", twice)
	}
}

// P12.3: without a reference or a total, and with a further column.
func TestParts(t *testing.T) {
	tried := map[string]int{}
	check := func(s api.Schema, valid bool, what string) {
		t.Helper()
		checkStays(t, s, valid, what)
		tried[what]++
	}
	eachSchema(3000, func(was api.Schema) {
		for i, r := range was.Refs {
			s := copied(was)
			s.Refs = slices.Delete(s.Refs, i, i+1)
			if !slices.Contains(schema.KeyReferences(was, r.Table), i) {
				check(s, true, "without a reference")
			}
		}
		for i := range was.Totals {
			s := copied(was)
			s.Totals = slices.Delete(s.Totals, i, i+1)
			check(s, true, "without a total")
		}
		for i, table := range was.Tables {
			filled := number("new", 3)
			filled.Type.Null = true
			for _, c := range []api.Column{nullable(number("new", 0)), nullable(text("new")), nullable(truth("new")), filled} {
				s := copied(was)
				s.Tables[i].Columns = append(s.Tables[i].Columns, c)
				switch {
				case table.Kind == api.TableSet:
					check(s, false, "with a further column of a set")
				case len(table.Columns) < api.MaxColumns:
					check(s, true, "with a further column")
				default:
					check(s, false, "with a column for which there is no room")
				}
			}
		}
	})
	for _, what := range []string{"without a reference", "without a total", "with a further column of a set", "with a further column", "with a column for which there is no room"} {
		if tried[what] < 500 {
			t.Errorf("%s: tried %d times", what, tried[what])
		}
	}
}

// P12.4: parents, and what can be erased.
func TestParents(t *testing.T) {
	parents, erasable := 0, map[bool]int{}
	eachSchema(10000, func(s api.Schema) {
		for table := range s.Tables {
			l := schema.Parents(s, table)
			if !slices.IsSorted(l) || len(slices.Compact(slices.Clone(l))) != len(l) {
				t.Errorf("the parents of the table %d of %+v: %v", table, s, l)
			}
			erase := s.Tables[table].Erase
			for _, p := range l {
				if p < 0 || p >= table {
					t.Errorf("a parent of the table %d of %+v: %d", table, s, p)
				}
				for _, own := range schema.Parents(s, p) {
					if !slices.Contains(l, own) {
						t.Errorf("the parents of the table %d of %+v are %v, without the parent %d of %d", table, s, l, own, p)
					}
					parents++
				}
				erase = erase || s.Tables[p].Erase
			}
			for _, i := range schema.KeyReferences(s, table) {
				if !slices.Contains(l, s.Refs[i].To) {
					t.Errorf("the parents of the table %d of %+v are %v, without that of the reference %d", table, s, l, i)
				}
			}
			if got := schema.CanErase(s, table); got != erase {
				t.Errorf("CanErase(%+v, %d): %t", s, table, got)
			}
			erasable[erase && !s.Tables[table].Erase]++
		}
	})
	if parents < 300 || erasable[true] < 500 {
		t.Errorf("so many parents of parents, and tables that can be erased with others: %d, %v", parents, erasable)
	}
}

// P12.5: what is refused.
func TestRefusal(t *testing.T) {
	tried := map[string]int{}
	refuse := func(s api.Schema, what string) {
		t.Helper()
		checkStays(t, s, false, what)
		tried[what]++
	}
	eachSchema(3000, func(was api.Schema) {
		for i, table := range was.Tables {
			for j, c := range table.Columns {
				if j < table.Key {
					s := copied(was)
					s.Tables[i].Columns[j].Type.Null = true
					refuse(s, "a key column that may be null")
				}
				for _, v := range []api.Value{{}, {K: 1}, {K: 1, I: 1}, {K: 1, I: 2}, num(0), num(1), num(-100000), num(mostNumber + 1), str(""), str("\n"), str(strings.Repeat("a", 41)), {K: 4}, {I: 1}, {K: 2, S: "1"}} {
					if !modelHas(c.Type, v) {
						s := copied(was)
						s.Tables[i].Columns[j].Default = v
						refuse(s, "a default that does not have its type")
					}
				}
			}
			if len(was.Tables) < api.MaxTables {
				s := copied(was)
				s.Tables = append(s.Tables, table)
				refuse(s, "a table that stands twice")
			}
		}
		for i, r := range was.Refs {
			if slices.Contains(schema.KeyReferences(was, r.Table), i) {
				continue
			}
			for _, erase := range append(schema.Parents(was, r.To), r.To) {
				s := copied(was)
				s.Tables[erase].Erase = true
				refuse(s, "a reference to a table that can be erased, which is no key reference")
			}
		}
	})
	for _, what := range []string{"a key column that may be null", "a default that does not have its type", "a table that stands twice", "a reference to a table that can be erased, which is no key reference"} {
		if tried[what] < 1000 {
			t.Errorf("%s: tried %d times", what, tried[what])
		}
	}
}

// P12.6: shares and counters.
func TestColumns(t *testing.T) {
	found := map[int]int{}
	eachSchema(10000, func(s api.Schema) {
		for i, table := range s.Tables {
			shares := 0
			for j, c := range table.Columns {
				if c.Rule != api.RulePlain && j < table.Key {
					t.Errorf("a key column of %+v has the rule %d", table, c.Rule)
				}
				if c.Rule == api.RuleShare {
					shares++
					if schema.Share(s, i) != j || schema.Bound(s, i, j) {
						t.Errorf("the share %d of %+v is found at %d, or bound", j, table, schema.Share(s, i))
					}
				}
				if got := schema.FindColumn(table, c.Name); got != j {
					t.Errorf("the column %d of %+v is found at %d", j, table, got)
				}
				found[c.Rule]++
				checkRules(t, s, i, j)
			}
			if shares > 1 || shares == 0 && schema.Share(s, i) != -1 {
				t.Errorf("%+v has %d shares, and one at %d", table, shares, schema.Share(s, i))
			}
		}
	})
	for rule := range 3 {
		if found[rule] < 1000 {
			t.Errorf("%d columns with the rule %d", found[rule], rule)
		}
	}
}

// checkRules checks that a column with another rule, or with a total, is refused where P12.6 says so.
func checkRules(t *testing.T, was api.Schema, table, column int) {
	t.Helper()
	share := schema.Share(was, table)
	for _, rule := range []int{api.RuleCount, api.RuleShare} {
		if column < was.Tables[table].Key || rule == api.RuleShare && share >= 0 && share != column {
			s := copied(was)
			s.Tables[table].Columns[column].Rule = rule
			checkStays(t, s, false, "a key column with a rule, or a further share")
		}
	}
	if share == column {
		s := copied(was)
		s.Totals = append(s.Totals[:min(len(s.Totals), 7)], api.Total{Table: table, Column: column})
		checkStays(t, s, false, "a total of a share")
	}
}

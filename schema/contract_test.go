package schema_test

import (
	"fmt"
	"reflect"
	"slices"
	"strings"
	"testing"

	"chapman/api"
	"chapman/schema"
)

// These tests are for P12.1 (contract), for L5 and for P1 of the document.

func checkName(t *testing.T, s string) {
	t.Helper()
	if got, want := schema.Name(s), modelName(s); got != want {
		t.Errorf("Name(%.50q): %t", s, got)
	}
}

// checkValid reports whether s is valid, and checks that Valid says so.
func checkValid(t *testing.T, s api.Schema) bool {
	t.Helper()
	want, valid := api.ErrSchema, modelValid(s)
	if valid {
		want = api.OK
	}
	if got := schema.Valid(s); got != want {
		t.Errorf("Valid(%+v): %d instead of %d", s, got, want)
	}
	return valid
}

// checkParts checks all that is looked for in a valid schema.
func checkParts(t *testing.T, s api.Schema) {
	t.Helper()
	for table := -2; table < 7; table++ {
		if got, want := schema.KeyReferences(s, table), modelKeys(s, table); !slices.Equal(got, want) {
			t.Errorf("KeyReferences(%+v, %d): %v instead of %v", s, table, got, want)
		}
		if got, want := schema.Parents(s, table), modelParents(s, table); !slices.Equal(got, want) {
			t.Errorf("Parents(%+v, %d): %v instead of %v", s, table, got, want)
		}
		if got, want := schema.CanErase(s, table), table >= 0 && table < len(s.Tables) && modelErased(s)[table]; got != want {
			t.Errorf("CanErase(%+v, %d): %t", s, table, got)
		}
		if got, want := schema.Share(s, table), modelShare(s, table); got != want {
			t.Errorf("Share(%+v, %d): %d instead of %d", s, table, got, want)
		}
		for column := -2; column < 10; column++ {
			if got, want := schema.Bound(s, table, column), modelBound(s, table, column); got != want {
				t.Errorf("Bound(%+v, %d, %d): %t", s, table, column, got)
			}
		}
	}
}

func TestExamples(t *testing.T) {
	s := api.Schema{Tables: []api.Table{free("t", 1, number("k", 0), text("v"))}}
	check := func(want api.Errno) {
		t.Helper()
		if got := schema.Valid(s); got != want {
			t.Errorf("Valid(%+v): %d", s, got)
		}
	}
	check(api.OK)
	s.Refs = []api.Reference{{Table: 0, Column: 1, To: 0}}
	check(api.ErrSchema)
	s.Tables = append(s.Tables, free("u", 1, number("k", 0), text("v")))
	s.Refs = []api.Reference{{Table: 1, Column: 0, To: 0}}
	check(api.OK)
	if got := schema.KeyReferences(s, 1); !slices.Equal(got, []int{0}) {
		t.Errorf("the key references of u: %v", got)
	}
	if got := schema.Parents(s, 1); !slices.Equal(got, []int{0}) {
		t.Errorf("the parents of u: %v", got)
	}
	if schema.CanErase(s, 0) || schema.CanErase(s, 1) {
		t.Error("t or u can be erased without Erase")
	}
	s.Tables[0].Erase = true
	check(api.OK)
	if !schema.CanErase(s, 0) || !schema.CanErase(s, 1) {
		t.Error("t or u cannot be erased")
	}
}

func TestName(t *testing.T) {
	for s, want := range map[string]bool{
		"a": true, "z": true, "a0": true, "z9": true, "m5m": true, "a234567890123456": true, "zzzzzzzzzzzzzzzz": true,
		"": false, "0": false, "9a": false, "A": false, "aB": false, "a_b": false, "a b": false, " a": false, "a ": false, "a\n": false, "a.b": false, "\u00e4": false, "a\u00e4": false, "a\xff": false, "a\x00": false, "a\u0661": false, "a2345678901234567": false, "zzzzzzzzzzzzzzzzz": false,
	} {
		if got := schema.Name(s); got != want {
			t.Errorf("Name(%q): %t", s, got)
		}
		checkName(t, s)
	}
	for x := range 256 {
		one := string([]byte{byte(x)})
		for _, s := range []string{one, "a" + one, one + "a", "a" + one + "z", "9" + one, one + "9", strings.Repeat("a", 15) + one, one + strings.Repeat("0", 15), strings.Repeat("k", 16) + one, strings.Repeat(one, 17)} {
			checkName(t, s)
		}
		for y := range 256 {
			checkName(t, string([]byte{byte(x), byte(y)}))
		}
	}
	for n := range 300 {
		for _, c := range []string{"a", "a9", "9", "z"} {
			checkName(t, strings.Repeat(c, n))
		}
	}
}

// change is a change of a schema, and whether it stays valid.
type change struct {
	of    func(s *api.Schema)
	valid bool
}

func checkChanges(t *testing.T, base func() api.Schema, changes []change) {
	t.Helper()
	if !checkValid(t, base()) {
		t.Fatalf("%+v is not valid", base())
	}
	for i, c := range changes {
		s := base()
		c.of(&s)
		if got := checkValid(t, s); got != c.valid {
			t.Errorf("the change %d: the model takes %+v for valid: %t", i, s, got)
		}
		if c.valid {
			checkParts(t, s)
		}
	}
}

func TestNamesOfSchemas(t *testing.T) {
	checkChanges(t, shop, []change{
		{func(s *api.Schema) { s.Tables[0].Name = "a2345678901234567" }, false},
		{func(s *api.Schema) { s.Tables[0].Name = "a234567890123456" }, true},
		{func(s *api.Schema) { s.Tables[3].Name = "" }, false},
		{func(s *api.Schema) { s.Tables[3].Name = "Tag" }, false},
		{func(s *api.Schema) { s.Tables[3].Name = s.Tables[0].Name }, false},
		{func(s *api.Schema) { s.Tables[2].Name = s.Tables[1].Name }, false},
		{func(s *api.Schema) { s.Tables[3].Name = s.Tables[3].Columns[0].Name }, true},
		{func(s *api.Schema) { s.Tables[2].Columns[5].Name = "" }, false},
		{func(s *api.Schema) { s.Tables[2].Columns[0].Name = "0" }, false},
		{func(s *api.Schema) { s.Tables[2].Columns[5].Name = "a23456789012345 " }, false},
		{func(s *api.Schema) { s.Tables[2].Columns[5].Name = s.Tables[2].Columns[0].Name }, false},
		{func(s *api.Schema) { s.Tables[2].Columns[2].Name = s.Tables[2].Columns[3].Name }, false},
		{func(s *api.Schema) { s.Tables[3].Columns[1].Name = s.Tables[3].Columns[0].Name }, false},
		{func(s *api.Schema) { s.Tables[2].Columns[5].Name = s.Tables[0].Columns[0].Name }, true},
		{func(s *api.Schema) { s.Tables[2].Columns[5].Name = s.Tables[2].Name }, true},
	})
}

// numbers returns so many columns of numbers.
func numbers(n int) []api.Column {
	var l []api.Column
	for i := range n {
		l = append(l, number(fmt.Sprint("c", i), 0))
	}
	return l
}

func TestSizes(t *testing.T) {
	for n := range 12 {
		var s api.Schema
		for i := range n {
			s.Tables = append(s.Tables, free(fmt.Sprint("t", i), 1, number("k", 0)))
		}
		if got := checkValid(t, s); got != (n >= 1 && n <= 4) {
			t.Errorf("a schema of %d tables: %t", n, got)
		}
		wide := api.Schema{Tables: []api.Table{free("t", 1, numbers(n)...)}}
		if got := checkValid(t, wide); got != (n >= 1 && n <= 8) {
			t.Errorf("a table of %d columns: %t", n, got)
		}
		own := shop()
		own.Refs = slices.Repeat(own.Refs[n%2:][:1], n)
		if got := checkValid(t, own); got != (n <= 8) {
			t.Errorf("a schema of %d references: %t", n, got)
		}
		own = shop()
		own.Totals = slices.Repeat(own.Totals[n%3:][:1], n)
		if got := checkValid(t, own); got != (n <= 8) {
			t.Errorf("a schema of %d totals: %t", n, got)
		}
		for kind := range 4 {
			for columns := range 4 {
				for key := -1; key < 5; key++ {
					s := api.Schema{Tables: []api.Table{{Name: "t", Columns: numbers(columns), Key: key, Kind: kind}}}
					want := kind < 3 && columns > 0 && (key == 1 || key == 2) && key <= columns && (kind < 2 || key == columns)
					if got := checkValid(t, s); got != want {
						t.Errorf("a table of the kind %d with %d columns and the key %d: %t", kind, columns, key, got)
					}
				}
			}
		}
	}
}

func TestColumnsOfSchemas(t *testing.T) {
	column := func(table, i int, of func(c *api.Column)) func(s *api.Schema) {
		return func(s *api.Schema) { of(&s.Tables[table].Columns[i]) }
	}
	checkChanges(t, shop, []change{
		// types and defaults
		{column(2, 2, func(c *api.Column) { c.Default = num(10000) }), true},
		{column(2, 2, func(c *api.Column) { c.Default = num(-1000) }), false},
		{column(2, 2, func(c *api.Column) { c.Default = num(mostNumber) }), true},
		{column(2, 2, func(c *api.Column) { c.Default = num(mostNumber + 10000) }), false},
		{column(2, 2, func(c *api.Column) { c.Default = api.Value{} }), false},
		{column(2, 2, func(c *api.Column) { c.Type.Scale = 7 }), false},
		{column(2, 2, func(c *api.Column) { c.Type.Scale = -1 }), false},
		{column(2, 3, func(c *api.Column) { c.Type.Scale = 1 }), false},
		{column(2, 3, func(c *api.Column) { c.Default.I = 1 }), true},
		{column(2, 3, func(c *api.Column) { c.Default.I = 2 }), false},
		{column(2, 3, func(c *api.Column) { c.Type.K = 0 }), false},
		{column(2, 3, func(c *api.Column) { c.Type.K, c.Default = 0, api.Value{} }), false},
		{column(2, 3, func(c *api.Column) { c.Type, c.Default = api.Type{Null: true}, api.Value{} }), false},
		{column(2, 3, func(c *api.Column) { c.Type.K = 4 }), false},
		{column(0, 4, func(c *api.Column) { c.Default = str(strings.Repeat("~", 40)) }), true},
		{column(0, 4, func(c *api.Column) { c.Default = str(strings.Repeat("~", 41)) }), false},
		{column(0, 4, func(c *api.Column) { c.Default = str("\x7f") }), false},
		{column(0, 4, func(c *api.Column) { c.Default = num(0) }), false},
		{column(0, 4, func(c *api.Column) { c.Type.Null = false }), false},
		{column(0, 4, func(c *api.Column) { c.Type.Scale = 1 }), false},
		// rules
		{column(2, 2, func(c *api.Column) { c.Rule = 1 }), true},
		{column(2, 2, func(c *api.Column) { c.Rule = 2 }), false},
		{column(2, 4, func(c *api.Column) { c.Rule = 3 }), false},
		{column(2, 4, func(c *api.Column) { c.Rule = -1 }), false},
		{column(2, 4, func(c *api.Column) { c.Rule = 1 }), false},
		{column(2, 4, func(c *api.Column) { c.Rule, c.Type.Null, c.Default = 1, false, num(-5000000) }), true},
		{column(2, 4, func(c *api.Column) { c.Rule, c.Type.Null, c.Default = 2, false, num(0) }), false},
		{column(2, 3, func(c *api.Column) { c.Rule = 1 }), false},
		{column(0, 4, func(c *api.Column) { c.Rule, c.Type.Null, c.Default = 1, false, str("") }), false},
		{column(0, 2, func(c *api.Column) { c.Type.Null = true }), false},
		{column(0, 2, func(c *api.Column) { *c = stock(truth("stock")) }), false},
		{column(0, 2, func(c *api.Column) { c.Default = num(10000) }), true},
		{column(0, 2, func(c *api.Column) { c.Default = num(mostNumber) }), true},
		{column(0, 2, func(c *api.Column) { c.Default = num(-10000) }), false},
		{column(0, 2, func(c *api.Column) { c.Default = num(1000) }), false},
		{column(0, 2, func(c *api.Column) { c.Type.Scale, c.Default = 6, num(1) }), true},
		{column(0, 2, func(c *api.Column) { c.Type.Scale, c.Default = 6, num(-1) }), false},
		{column(0, 3, func(c *api.Column) { c.Default = num(-1000000) }), true},
		{column(0, 3, func(c *api.Column) { c.Type.Null = true }), false},
		// one stock, in a table that is kept
		{func(s *api.Schema) { s.Tables[0].Kind = 0 }, false},
		{func(s *api.Schema) { s.Tables[0].Kind, s.Tables[0].Columns[2].Rule = 0, 0 }, true},
		{func(s *api.Schema) { s.Totals = s.Totals[1:]; s.Tables[0].Columns[3].Rule = 2 }, false},
		{func(s *api.Schema) {
			s.Totals = s.Totals[1:]
			s.Tables[0].Columns[2].Rule, s.Tables[0].Columns[3].Rule = 0, 2
		}, true},
		{func(s *api.Schema) { s.Tables[0].Columns = append(s.Tables[0].Columns, stock(number("other", 0))) }, false},
		{func(s *api.Schema) { s.Tables[0].Columns = append(s.Tables[0].Columns, counter(number("other", 0))) }, true},
	})
}

func TestKeys(t *testing.T) {
	column := func(table, i int, of func(c *api.Column)) func(s *api.Schema) {
		return func(s *api.Schema) { of(&s.Tables[table].Columns[i]) }
	}
	base := func() api.Schema {
		return api.Schema{Tables: []api.Table{keep("k", 2, number("st", 0), text("a"), number("n", 1)), free("f", 2, truth("a"), number("b", 6), text("c")), set("s", text("a"), truth("b"))}}
	}
	checkChanges(t, base, []change{
		{func(s *api.Schema) { s.Tables[0].Key = 1 }, true},
		{func(s *api.Schema) { s.Tables[0].Key = 3 }, false},
		{func(s *api.Schema) { s.Tables[0].Key = 0 }, false},
		{func(s *api.Schema) { s.Tables[0].Key = least }, false},
		{func(s *api.Schema) { s.Tables[1].Key = 3 }, false},
		{func(s *api.Schema) { s.Tables[1].Key = greatest }, false},
		{func(s *api.Schema) { s.Tables[2].Key = 1 }, false},
		{func(s *api.Schema) { s.Tables[2].Key = 3 }, false},
		{func(s *api.Schema) { s.Tables[2].Key, s.Tables[2].Columns = 1, s.Tables[2].Columns[:1] }, true},
		{func(s *api.Schema) { s.Tables[2].Columns = s.Tables[2].Columns[:1] }, false},
		{func(s *api.Schema) { s.Tables[2].Columns = nil }, false},
		{func(s *api.Schema) { s.Tables[2].Columns, s.Tables[2].Key = nil, 0 }, false},
		{func(s *api.Schema) { s.Tables[2].Columns = append(s.Tables[2].Columns, nullable(text("c"))) }, false},
		{func(s *api.Schema) { s.Tables[2].Kind = 0 }, true},
		{func(s *api.Schema) { s.Tables[2].Kind = 1 }, false},
		{func(s *api.Schema) { s.Tables[1].Kind = 1 }, false},
		{func(s *api.Schema) { s.Tables[1].Kind = 2 }, false},
		{func(s *api.Schema) { s.Tables[1].Kind = 3 }, false},
		{func(s *api.Schema) { s.Tables[1].Kind = -1 }, false},
		{func(s *api.Schema) { s.Tables[0].Kind = 0 }, true},
		{func(s *api.Schema) { s.Tables[0].Columns = s.Tables[0].Columns[:2] }, true},
		{func(s *api.Schema) { s.Tables[0].Columns, s.Tables[0].Kind = s.Tables[0].Columns[:2], 2 }, true},
		// the numbers of stations
		{column(0, 0, func(c *api.Column) { c.Type.Scale = 1 }), false},
		{column(0, 0, func(c *api.Column) { c.Type.Scale = 6 }), false},
		{column(0, 0, func(c *api.Column) { *c = text("st") }), false},
		{column(0, 0, func(c *api.Column) { *c = truth("st") }), false},
		{column(0, 0, func(c *api.Column) { c.Type.Null = true }), false},
		{column(0, 0, func(c *api.Column) { c.Default = num(-3000000) }), true},
		{column(0, 1, func(c *api.Column) { *c = number("a", 3) }), true},
		// no nulls, counters and stocks in a key
		{column(0, 1, func(c *api.Column) { c.Type.Null = true }), false},
		{column(1, 0, func(c *api.Column) { c.Type.Null = true }), false},
		{column(1, 1, func(c *api.Column) { c.Type.Null = true }), false},
		{column(1, 2, func(c *api.Column) { c.Type.Null = true }), true},
		{column(2, 0, func(c *api.Column) { c.Type.Null = true }), false},
		{column(2, 1, func(c *api.Column) { c.Type.Null = true }), false},
		{column(1, 1, func(c *api.Column) { c.Rule = 1 }), false},
		{column(1, 1, func(c *api.Column) { c.Rule = 2 }), false},
		{column(0, 0, func(c *api.Column) { c.Rule = 1 }), false},
		{column(0, 0, func(c *api.Column) { c.Rule = 2 }), false},
		{column(0, 1, func(c *api.Column) { *c = stock(number("a", 0)) }), false},
		{column(0, 1, func(c *api.Column) { *c = counter(number("a", 0)) }), false},
		{column(2, 1, func(c *api.Column) { *c = counter(number("a", 0)) }), false},
		{column(0, 2, func(c *api.Column) { c.Rule = 2 }), true},
	})
}

func TestReferences(t *testing.T) {
	refer := func(refs ...api.Reference) func(s *api.Schema) {
		return func(s *api.Schema) { s.Refs = refs }
	}
	checkChanges(t, shop, []change{
		{refer(), true},
		{refer(api.Reference{Table: -1, Column: 1, To: 0}), false},
		{refer(api.Reference{Table: 4, Column: 1, To: 0}), false},
		{refer(api.Reference{Table: greatest, Column: 1, To: 0}), false},
		{refer(api.Reference{Table: 1, Column: 1, To: -1}), false},
		{refer(api.Reference{Table: 1, Column: 1, To: 4}), false},
		{refer(api.Reference{Table: 1, Column: 1, To: least}), false},
		{refer(api.Reference{Table: 1, Column: -1, To: 0}), false},
		{refer(api.Reference{Table: 1, Column: -2, To: 0}), false},
		{refer(api.Reference{Table: 1, Column: greatest, To: 0}), false},
		{refer(api.Reference{Table: 1, Column: greatest - 1, To: 0}), false},
		{refer(api.Reference{Table: 1, Column: least, To: 0}), false},
		// the columns that follow have another scale, or are not there
		{refer(api.Reference{Table: 1, Column: 0, To: 0}), true},
		{refer(api.Reference{Table: 1, Column: 2, To: 0}), false},
		{refer(api.Reference{Table: 1, Column: 3, To: 0}), false},
		{refer(api.Reference{Table: 1, Column: 4, To: 0}), false},
		{refer(api.Reference{Table: 2, Column: 1, To: 0}), false},
		{refer(api.Reference{Table: 2, Column: 4, To: 0}), false},
		{refer(api.Reference{Table: 2, Column: 5, To: 0}), false},
		// sets
		{refer(api.Reference{Table: 3, Column: 0, To: 1}), false},
		{refer(api.Reference{Table: 2, Column: 0, To: 3}), false},
		{func(s *api.Schema) {
			refer(api.Reference{Table: 3, Column: 0, To: 1})(s)
			s.Tables[3].Kind = 0
		}, true},
		// a part of the key, with a column that is none, is no key reference, so that the order of the tables is free
		{refer(api.Reference{Table: 2, Column: 0, To: 0}), true},
		{refer(api.Reference{Table: 2, Column: 0, To: 0}, api.Reference{Table: 2, Column: 0, To: 1}, api.Reference{Table: 2, Column: 1, To: 1}), true},
		{refer(api.Reference{Table: 0, Column: 0, To: 2}), false},
		{refer(api.Reference{Table: 1, Column: 0, To: 2}), true},
		{refer(api.Reference{Table: 1, Column: 1, To: 2}), true},
		// key references lead to tables ahead alone
		{refer(api.Reference{Table: 0, Column: 0, To: 0}), false},
		{refer(api.Reference{Table: 2, Column: 0, To: 2}), false},
		{refer(api.Reference{Table: 0, Column: 0, To: 1}), false},
		{refer(api.Reference{Table: 0, Column: 1, To: 1}), false},
		{refer(api.Reference{Table: 2, Column: 1, To: 1}), true},
		{refer(api.Reference{Table: 1, Column: 0, To: 1}), false},
		{refer(api.Reference{Table: 1, Column: 2, To: 1}), false},
		{func(s *api.Schema) {
			refer(api.Reference{Table: 1, Column: 2, To: 1})(s)
			s.Tables[1].Erase = false
		}, true},
		// counters and stocks
		{func(s *api.Schema) {
			s.Tables[1].Erase = false
			s.Tables[2].Columns[5] = number("pieces", 0)
			refer(api.Reference{Table: 2, Column: 5, To: 1}, api.Reference{Table: 2, Column: 4, To: 0})(s)
		}, true},
		{func(s *api.Schema) {
			s.Tables[1].Erase = false
			s.Tables[2].Columns[5] = counter(number("pieces", 0))
			refer(api.Reference{Table: 2, Column: 5, To: 1})(s)
		}, false},
		{func(s *api.Schema) {
			s.Tables[1].Erase = false
			s.Tables[2].Columns[5] = counter(number("pieces", 0))
			refer(api.Reference{Table: 2, Column: 4, To: 0})(s)
		}, false},
		{func(s *api.Schema) {
			s.Tables[1].Erase = false
			s.Tables[0].Columns[2] = stock(number("stock", 0))
			refer(api.Reference{Table: 0, Column: 2, To: 1})(s)
		}, false},
		// the last reference counts as well
		{func(s *api.Schema) {
			s.Refs = append(s.Refs, slices.Repeat(s.Refs, 2)...)
			s.Refs = append(s.Refs, api.Reference{Table: 3})
		}, false},
	})
}

func TestReferencesByTypes(t *testing.T) {
	columns := []api.Column{number("a", 0), number("a", 2), number("a", 6), text("a"), truth("a"), nullable(number("a", 2)), nullable(text("a")), nullable(truth("a"))}
	for i, a := range columns {
		for j, b := range columns {
			b.Name, b.Default = "b", num(0)
			if b.Type.Null {
				b.Default = api.Value{}
			}
			b.Default.K = map[bool]int{false: b.Type.K}[b.Type.Null]
			for k, c := range columns[:5] {
				s := api.Schema{Tables: []api.Table{free("to", 1, c, number("d", 0)), free("from", 1, text("key"), a, b)}, Refs: []api.Reference{{Table: 1, Column: 1, To: 0}}}
				if got := checkValid(t, s); got != (i == k || i == 5 && k == 1 || i == 6 && k == 3 || i == 7 && k == 4) {
					t.Errorf("a reference from a column %d to a key %d: %t", i, k, got)
				}
				s.Refs[0].Column = 2
				checkValid(t, s)
				s.Tables[0] = free("to", 2, c, keyed(columns[(j+k)%8]))
				s.Tables[0].Columns[1].Name = "d"
				s.Refs[0].Column = 1
				checkValid(t, s)
			}
		}
	}
}

func TestErasure(t *testing.T) {
	erase := func(table int, refs ...api.Reference) func(s *api.Schema) {
		return func(s *api.Schema) {
			s.Tables[table].Erase = true
			s.Refs = append(s.Refs, refs...)
		}
	}
	checkChanges(t, line, []change{
		{erase(0), true},
		{erase(1), true},
		{erase(3), true},
		// what refers to a table that can be erased does so by its key
		{erase(0, api.Reference{Table: 1, Column: 2, To: 0}), false},
		{erase(0, api.Reference{Table: 0, Column: 2, To: 0}), false},
		{erase(1, api.Reference{Table: 1, Column: 2, To: 0}), true},
		{erase(3, api.Reference{Table: 1, Column: 2, To: 0}), true},
		{erase(1, api.Reference{Table: 3, Column: 2, To: 1}), false},
		{erase(1, api.Reference{Table: 0, Column: 2, To: 1}), false},
		{erase(3, api.Reference{Table: 0, Column: 2, To: 3}), false},
		{erase(1, api.Reference{Table: 3, Column: 2, To: 0}), true},
		{erase(2, api.Reference{Table: 3, Column: 2, To: 1}, api.Reference{Table: 0, Column: 2, To: 1}, api.Reference{Table: 1, Column: 2, To: 1}), true},
		// and to one that can be erased with another one, however many lie between them
		{erase(0, api.Reference{Table: 0, Column: 2, To: 1}), false},
		{erase(0, api.Reference{Table: 0, Column: 2, To: 2}), false},
		{erase(0, api.Reference{Table: 0, Column: 2, To: 3}), false},
		{erase(2, api.Reference{Table: 0, Column: 2, To: 3}), false},
		{erase(2, api.Reference{Table: 3, Column: 2, To: 3}), false},
		{erase(0, api.Reference{Table: 3, Column: 0, To: 0}), true},
		{erase(0, api.Reference{Table: 3, Column: 0, To: 0}, api.Reference{Table: 1, Column: 2, To: 3}), false},
		{func(s *api.Schema) {
			s.Refs = []api.Reference{{Table: 3, Column: 0, To: 1}, {Table: 2, Column: 2, To: 3}}
			s.Tables[0].Erase = true
		}, true},
		{func(s *api.Schema) {
			s.Refs = []api.Reference{{Table: 3, Column: 0, To: 1}, {Table: 2, Column: 2, To: 3}}
			s.Tables[1].Erase = true
		}, false},
		{func(s *api.Schema) { s.Tables[3] = erased(set("d", text("a"))); s.Refs = s.Refs[:2] }, true},
		{func(s *api.Schema) { s.Tables[0] = erased(keep("a", 2, number("st", 0), text("l"))) }, true},
	})
}

func TestTotals(t *testing.T) {
	total := func(table, column, lo, hi int) func(s *api.Schema) {
		return func(s *api.Schema) { s.Totals[1] = api.Total{Table: table, Column: column, Lo: lo, Hi: hi} }
	}
	checkChanges(t, shop, []change{
		{total(0, 3, 0, 0), true},
		{total(0, 3, -mostSum, mostSum), true},
		{total(0, 3, -mostSum-1, mostSum), false},
		{total(0, 3, -mostSum, mostSum+1), false},
		{total(0, 3, least, greatest), false},
		{total(0, 3, 0, greatest), false},
		{total(0, 3, least, 0), false},
		{total(0, 3, 1, 1), false},
		{total(0, 3, 1, 2), false},
		{total(0, 3, -1, -1), false},
		{total(0, 3, -2, -1), false},
		{total(0, 3, 1, -1), false},
		{total(0, 3, -3, 5), true},
		// which columns
		{total(0, 0, 0, 0), true},
		{total(0, 1, 0, 0), true},
		{total(0, 2, 0, 0), false},
		{total(0, 4, 0, 0), false},
		{total(0, 5, 0, 0), false},
		{total(0, -1, 0, 0), false},
		{total(0, greatest, 0, 0), false},
		{total(1, 1, 0, 0), true},
		{total(1, 4, 0, 0), false},
		{total(2, 3, 0, 0), false},
		{total(2, 5, 0, 0), true},
		{total(3, 0, 0, 0), true},
		{total(3, 1, 0, 0), false},
		{total(4, 0, 0, 0), false},
		{total(-1, 0, 0, 0), false},
		{total(least, 0, 0, 0), false},
		// the last total counts as well
		{func(s *api.Schema) { s.Totals = append(s.Totals, api.Total{Table: 3, Column: 1}) }, false},
	})
}

func TestFind(t *testing.T) {
	s := shop()
	s.Tables = append(s.Tables, free("order", 1), free("", 0), free("A b", 9), free("", 1))
	for name, want := range map[string]int{"depot": 0, "order": 1, "line": 2, "tag": 3, "": 5, "A b": 6, "id": -1, "Depot": -1, "depo": -1, "depots": -1, " ": -1} {
		if got := schema.Find(s, name); got != want {
			t.Errorf("Find of %q: %d", name, got)
		}
	}
	if got := schema.Find(api.Schema{}, ""); got != -1 {
		t.Errorf("Find in a schema without tables: %d", got)
	}
	table := free("t", 0, number("a", 0), number("b", 0), text("a"), text(""), truth("~"), truth(""))
	for name, want := range map[string]int{"a": 0, "b": 1, "": 3, "~": 4, "t": -1, "A": -1, "aa": -1} {
		if got := schema.FindColumn(table, name); got != want {
			t.Errorf("FindColumn of %q: %d", name, got)
		}
	}
	if got := schema.FindColumn(api.Table{}, ""); got != -1 {
		t.Errorf("FindColumn in a table without columns: %d", got)
	}
}

func TestKeyReferences(t *testing.T) {
	s := line()
	s.Refs = append(s.Refs, api.Reference{Table: 3, Column: 2, To: 2}, api.Reference{Table: 3, Column: 0, To: 0}, api.Reference{Table: 1, Column: 2, To: 3}, api.Reference{Table: 3, Column: 0, To: 2}, api.Reference{Table: 0, Column: 2, To: 1})
	if !checkValid(t, s) {
		t.Fatalf("%+v is not valid", s)
	}
	keys := map[int][]int{0: nil, 1: {0}, 2: {1}, 3: {2, 4, 6}}
	parents := map[int][]int{0: nil, 1: {0}, 2: {0, 1}, 3: {0, 1, 2}}
	for _, table := range []int{least, -1, 0, 1, 2, 3, 4, 5, greatest} {
		if got := schema.KeyReferences(s, table); !slices.Equal(got, keys[table]) {
			t.Errorf("KeyReferences of the table %d: %v", table, got)
		}
		if got := schema.Parents(s, table); !slices.Equal(got, parents[table]) {
			t.Errorf("Parents of the table %d: %v", table, got)
		}
	}
	// Two tables that have the same parents in another order.
	s.Refs = []api.Reference{{Table: 3, To: 2}, {Table: 3, To: 1}, {Table: 2, To: 0}, {Table: 1, To: 0}}
	for table, want := range [][]int{nil, {0}, {0}, {0, 1, 2}} {
		if got := schema.Parents(s, table); !slices.Equal(got, want) {
			t.Errorf("Parents of the table %d: %v instead of %v", table, got, want)
		}
	}
	// A reference of some of the key columns to a key of one column.
	s = shop()
	s.Refs = []api.Reference{{Table: 2, Column: 1, To: 1}, {Table: 2, Column: 0, To: 0}, {Table: 1, Column: 0, To: 0}, {Table: 2, Column: 0, To: 1}}
	if got := schema.KeyReferences(s, 2); !slices.Equal(got, []int{0, 1, 3}) {
		t.Errorf("KeyReferences of a table with a key of two columns: %v", got)
	}
	if got := schema.KeyReferences(s, 1); len(got) != 0 {
		t.Errorf("KeyReferences of a table with a reference that begins with its key: %v", got)
	}
	checkParts(t, s)
}

func TestCanErase(t *testing.T) {
	for at, want := range [][4]bool{{true, true, true, true}, {false, true, true, true}, {false, false, true, true}, {false, false, false, true}} {
		s := line()
		s.Tables[at].Erase = true
		for table, can := range want {
			if got := schema.CanErase(s, table); got != can {
				t.Errorf("CanErase of the table %d, with Erase of the table %d: %t", table, at, got)
			}
		}
		for _, table := range []int{least, -1, 4, 5, greatest} {
			if schema.CanErase(s, table) {
				t.Errorf("CanErase of the table %d", table)
			}
		}
	}
}

func TestShareAndBound(t *testing.T) {
	s := shop()
	shares := map[int]int{0: 2, 1: -1, 2: -1, 3: -1, 4: -1, -1: -1, least: -1, greatest: -1}
	for table, want := range shares {
		if got := schema.Share(s, table); got != want {
			t.Errorf("Share of the table %d: %d", table, got)
		}
	}
	bound := map[[2]int]bool{{0, 3}: true, {2, 2}: true, {1, 3}: true}
	for _, table := range []int{least, -1, 0, 1, 2, 3, 4, greatest} {
		for _, column := range []int{least, -1, 0, 1, 2, 3, 4, 5, 6, greatest} {
			if got := schema.Bound(s, table, column); got != bound[[2]int{table, column}] {
				t.Errorf("Bound of the column %d of the table %d: %t", column, table, got)
			}
		}
	}
	checkParts(t, s)
}

// Every part of some schemas is changed to everything that might be mistaken for valid.
func TestChangedSchemas(t *testing.T) {
	r := newRand()
	bases := []api.Schema{shop(), line(), {}}
	for range 40 {
		bases = append(bases, someSchema(r))
	}
	found := map[bool]int{}
	for i := range bases {
		base := copied(bases[i])
		eachChange(reflect.ValueOf(&bases[i]), func() {
			valid := checkValid(t, bases[i])
			found[valid]++
			if valid {
				checkParts(t, bases[i])
			}
		})
		if !same(base, bases[i]) {
			t.Fatalf("%+v was left as %+v", base, bases[i])
		}
	}
	if found[true] < 10000 || found[false] < 100000 {
		t.Errorf("so many changes were tried: %v", found)
	}
}

// All references that some schemas can have.
func TestAllReferences(t *testing.T) {
	r := newRand()
	found := map[bool]int{}
	for range 1000 {
		s := someSchema(r)
		eachReference(s, func(x api.Reference) {
			s.Refs = append(s.Refs[:0:0], x)
			found[checkValid(t, s)]++
		})
	}
	if found[true] < 3000 || found[false] < 3000 {
		t.Errorf("so many references were tried: %v", found)
	}
}

func TestSomeSchemas(t *testing.T) {
	r := newRand()
	for range 10000 {
		s := someSchema(r)
		if !checkValid(t, s) {
			t.Errorf("%+v is not valid", s)
		}
		checkParts(t, s)
	}
}

// callAll calls every function.
func callAll(s api.Schema) {
	schema.Valid(s)
	schema.Find(s, "a")
	for _, i := range []int{least, -1, 0, 1, 2, 3, 4, 1000, greatest} {
		schema.KeyReferences(s, i)
		schema.Parents(s, i)
		schema.CanErase(s, i)
		schema.Share(s, i)
		for _, j := range []int{least, -1, 0, 1, 8, greatest} {
			schema.Bound(s, i, j)
		}
	}
	for _, t := range s.Tables[:min(len(s.Tables), 6)] {
		schema.FindColumn(t, "a")
		schema.Name(t.Name)
	}
}

// P1: schemas that are not valid, also those whose references lead back.
func TestCallsEnd(t *testing.T) {
	round := line()
	round.Refs = append(round.Refs, api.Reference{Table: 0, To: 3}, api.Reference{Table: 0, To: 0}, api.Reference{Table: 3, To: 9}, api.Reference{Table: 7, To: 1}, api.Reference{Table: -1, To: -1})
	many := line()
	for i := range 500 {
		many.Tables = append(many.Tables, many.Tables[i%4])
		many.Refs = append(many.Refs, api.Reference{Table: i, To: i + 1}, api.Reference{Table: i, To: i / 2}, api.Reference{Table: i, To: i + 2})
	}
	long := line()
	long.Tables[1].Name = strings.Repeat("a", 1<<20)
	long.Tables[2].Columns[1].Name = strings.Repeat("a", 1<<20)
	long.Tables[3].Columns[1].Default.S = strings.Repeat("a", 1<<20)
	for _, n := range []int{least, greatest} {
		keys := line()
		for i := range keys.Tables {
			keys.Tables[i].Key = n
		}
		keys.Tables[2].Key = -n
		callAll(keys)
		checkValid(t, keys)
	}
	large := line()
	large.Tables = append(large.Tables, free("t", 1, slices.Repeat(numbers(1), 1<<17)...))
	large.Tables = append(large.Tables, slices.Repeat(large.Tables, 1<<15)...)
	large.Totals = make([]api.Total, 1<<17)
	wide := line()
	wide.Tables[3].Columns = slices.Repeat(numbers(8), 1<<15)
	for _, s := range []api.Schema{{}, round, many, long, large, wide, {Tables: make([]api.Table, 3), Refs: make([]api.Reference, 3)}, {Refs: make([]api.Reference, 9), Totals: make([]api.Total, 9)}} {
		callAll(s)
		if got := schema.Valid(s); got != api.ErrSchema {
			t.Errorf("a schema that is not valid: %d", got)
		}
	}
	s := shop()
	was := copied(s)
	eachChange(reflect.ValueOf(&s), func() { callAll(s) })
	if !same(s, was) {
		t.Errorf("%+v was changed to %+v", was, s)
	}
}

// L5, and no memory that results share with arguments or with each other.
func TestNothingIsChanged(t *testing.T) {
	r := newRand()
	for i := range 3000 {
		s := someSchema(r)
		if i%2 == 0 {
			// Room behind the lists, which nothing may write into.
			s.Refs = append(s.Refs, slices.Repeat([]api.Reference{{Table: 9, Column: 9, To: 9}}, 4)...)[:len(s.Refs)]
		}
		was, room := copied(s), slices.Clone(s.Refs[:cap(s.Refs)])
		callAll(s)
		if !same(s, was) || !slices.Equal(s.Refs[:cap(s.Refs)], room) {
			t.Errorf("%+v was changed to %+v", was, s)
		}
		for table := range s.Tables {
			for _, l := range [][]int{schema.KeyReferences(s, table), schema.Parents(s, table)} {
				l = l[:cap(l)]
				for j := range l {
					l[j] = -7
				}
			}
		}
		if !same(s, was) {
			t.Errorf("%+v was changed to %+v by a change of a result", was, s)
		}
		checkParts(t, s)
	}
}

// No state is kept: a call gives the same after others.
func TestCallsAgain(t *testing.T) {
	r := newRand()
	var l []api.Schema
	for range 100 {
		l = append(l, someSchema(r))
	}
	for range 2 {
		for _, s := range l {
			checkValid(t, s)
			checkParts(t, s)
			s.Tables = slices.Clone(s.Tables)
			s.Tables[0].Key = 0
			checkValid(t, s)
		}
	}
}

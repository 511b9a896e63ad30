package schema_test

import (
	"math/rand/v2"
	"reflect"
	"slices"
	"strings"

	"chapman/api"
)

// The schemas that the tests try.

const (
	mostNumber = 1000000000000000
	mostSum    = 4000000000000000000
	least      = -1 << 63
	greatest   = 1<<63 - 1
)

func newRand() *rand.Rand { return rand.New(rand.NewPCG(12, 12)) }

func num(n int) api.Value { return api.Value{K: 2, I: n} }

func str(s string) api.Value { return api.Value{K: 3, S: s} }

// number returns a column of numbers.
func number(name string, scale int) api.Column {
	return api.Column{Name: name, Type: api.Type{K: 2, Scale: scale}, Default: num(0)}
}

func text(name string) api.Column {
	return api.Column{Name: name, Type: api.Type{K: 3}, Default: str("")}
}

func truth(name string) api.Column {
	return api.Column{Name: name, Type: api.Type{K: 1}, Default: api.Value{K: 1}}
}

// nullable returns the column with null, which is its default.
func nullable(c api.Column) api.Column {
	c.Type.Null, c.Default = true, api.Value{}
	return c
}

func counter(c api.Column) api.Column {
	c.Rule = 1
	return c
}

func stock(c api.Column) api.Column {
	c.Rule = 2
	return c
}

// free returns a table with a key of so many columns.
func free(name string, key int, columns ...api.Column) api.Table {
	return api.Table{Name: name, Key: key, Columns: columns}
}

func keep(name string, key int, columns ...api.Column) api.Table {
	return api.Table{Name: name, Key: key, Columns: columns, Kind: 1}
}

func set(name string, columns ...api.Column) api.Table {
	return api.Table{Name: name, Key: len(columns), Columns: columns, Kind: 2}
}

func erased(t api.Table) api.Table {
	t.Erase = true
	return t
}

// shop has tables of all kinds, columns of all rules, and references and totals of all sorts.
func shop() api.Schema {
	return api.Schema{
		Tables: []api.Table{
			keep("depot", 2, number("st", 0), number("no", 0), stock(number("stock", 2)), counter(number("moves", 0)), nullable(text("place"))),
			erased(free("order", 1, number("id", 0), nullable(number("st", 0)), nullable(number("no", 0)), nullable(number("paid", 2)))),
			free("line", 2, number("id", 0), number("pos", 0), number("price", 2), truth("open"), nullable(number("before", 0)), counter(number("pieces", 3))),
			set("tag", number("id", 0), text("word")),
		},
		Refs:   []api.Reference{{Table: 1, Column: 1, To: 0}, {Table: 2, Column: 0, To: 1}},
		Totals: []api.Total{{Table: 0, Column: 3, Lo: 0, Hi: mostSum}, {Table: 2, Column: 2, Lo: -mostSum, Hi: 0}, {Table: 1, Column: 3, Lo: -7, Hi: 7}},
	}
}

// line has four tables, each of which but the first refers to the one before by its key.
func line() api.Schema {
	var s api.Schema
	for i, name := range []string{"a", "b", "c", "d"} {
		s.Tables = append(s.Tables, free(name, 2, number("k", 0), text("l"), nullable(number("m", 0)), nullable(text("n"))))
		if i > 0 {
			s.Refs = append(s.Refs, api.Reference{Table: i, To: i - 1})
		}
	}
	return s
}

// copied returns a copy of s that shares no memory with it.
func copied(s api.Schema) api.Schema {
	s.Tables, s.Refs, s.Totals = slices.Clone(s.Tables), slices.Clone(s.Refs), slices.Clone(s.Totals)
	for i := range s.Tables {
		s.Tables[i].Columns = slices.Clone(s.Tables[i].Columns)
	}
	return s
}

// same reports whether two schemas are the same.
func same(a, b api.Schema) bool {
	table := func(x, y api.Table) bool {
		return x.Name == y.Name && slices.Equal(x.Columns, y.Columns) && x.Key == y.Key && x.Kind == y.Kind && x.Erase == y.Erase
	}
	return slices.EqualFunc(a.Tables, b.Tables, table) && slices.Equal(a.Refs, b.Refs) && slices.Equal(a.Totals, b.Totals)
}

func pick[T any](r *rand.Rand, l ...T) T { return l[r.IntN(len(l))] }

// someNames returns so many different names.
func someNames(r *rand.Rand, n int) []string {
	var l []string
	for len(l) < n {
		name := string("abyz"[r.IntN(4)])
		for range pick(r, 0, 1, 2, 15) {
			name += string("az09k"[r.IntN(5)])
		}
		if !slices.Contains(l, name) {
			l = append(l, name)
		}
	}
	return l
}

// someColumn returns a column without a name, often one of the numbers that keys are.
func someColumn(r *rand.Rand) api.Column {
	scale := pick(r, 0, 0, 0, 2, r.IntN(7))
	unit := [...]int{1000000, 100000, 10000, 1000, 100, 10, 1}[scale]
	c := number("", scale)
	c.Default = num(pick(r, 0, 0, 1, -3, r.IntN(1000), mostNumber/unit, -mostNumber/unit) * unit)
	switch r.IntN(6) {
	case 0:
		c = text("")
		c.Default.S = pick(r, "", " ", "~", "a\"b", strings.Repeat("x", 40))
	case 1:
		c = truth("")
		c.Default.I = r.IntN(2)
	}
	if r.IntN(3) == 0 {
		c.Type.Null = true
		if r.IntN(2) == 0 {
			c.Default = api.Value{}
		}
	}
	return c
}

// keyed returns the column as one of a key.
func keyed(c api.Column) api.Column {
	c.Type.Null = false
	if c.Default == (api.Value{}) {
		c.Default.K = c.Type.K
	}
	return c
}

// someTable returns a valid table without names.
func someTable(r *rand.Rand) api.Table {
	t := api.Table{Key: 1 + r.IntN(2), Kind: pick(r, 0, 0, 0, 1, 1, 2), Erase: r.IntN(4) == 0}
	for range t.Key {
		t.Columns = append(t.Columns, keyed(someColumn(r)))
	}
	if t.Kind == 2 {
		return t
	}
	for len(t.Columns) < 8 && r.IntN(5) > 0 {
		c := someColumn(r)
		if c.Type.K == 2 && r.IntN(4) == 0 {
			c = counter(keyed(c))
		}
		t.Columns = append(t.Columns, c)
	}
	if t.Kind == 0 {
		return t
	}
	t.Columns[0] = number("", 0)
	if len(t.Columns) < 8 && r.IntN(3) > 0 {
		c := stock(number("", pick(r, 0, 1, 2, 6)))
		c.Default.I = pick(r, 0, 5000000, mostNumber)
		t.Columns = slices.Insert(t.Columns, t.Key+r.IntN(len(t.Columns)-t.Key+1), c)
	}
	return t
}

// eachReference yields what may be a reference of s, and what just is none.
func eachReference(s api.Schema, yield func(r api.Reference)) {
	for from := range len(s.Tables) + 1 {
		for to := range len(s.Tables) + 1 {
			for column := -1; column < 9; column++ {
				yield(api.Reference{Table: from, Column: column, To: to})
			}
		}
	}
}

// someSchema returns a valid schema.
func someSchema(r *rand.Rand) api.Schema {
	var s api.Schema
	for _, name := range someNames(r, pick(r, 1, 2, 3, 4, 4)) {
		t := someTable(r)
		t.Name = name
		if i := r.IntN(len(s.Tables) + 1); i < len(s.Tables) && t.Kind != 1 && s.Tables[i].Key <= t.Key {
			// The same key, so that there are key references often.
			copy(t.Columns, s.Tables[i].Columns[:s.Tables[i].Key])
		}
		for i, name := range someNames(r, len(t.Columns)) {
			t.Columns[i].Name = name
		}
		s.Tables = append(s.Tables, t)
	}
	var may, keys []api.Reference
	eachReference(s, func(x api.Reference) {
		if modelReference(s, x) {
			may = append(may, x)
			if modelIsKey(s, x) {
				keys = append(keys, x)
			}
		}
	})
	for len(may) > 0 && len(s.Refs) < 8 && r.IntN(6) > 0 {
		s.Refs = append(s.Refs, pick(r, append(may, keys...)...))
	}
	can := modelErased(s)
	s.Refs = slices.DeleteFunc(s.Refs, func(x api.Reference) bool { return can[x.To] && !modelIsKey(s, x) })
	for range r.IntN(9) {
		i := r.IntN(len(s.Tables))
		x := api.Total{Table: i, Column: r.IntN(len(s.Tables[i].Columns)), Lo: -pick(r, 0, 1, 1000000, mostSum), Hi: pick(r, 0, 1, 1000000, mostSum)}
		if modelTotal(s, x) {
			s.Totals = append(s.Totals, x)
		}
	}
	return s
}

// eachChange calls f for each change of one part of what v points to, and takes the change back.
func eachChange(v reflect.Value, f func()) {
	switch v.Kind() {
	case reflect.Pointer:
		eachChange(v.Elem(), f)
	case reflect.Struct:
		for i := range v.NumField() {
			eachChange(v.Field(i), f)
		}
	case reflect.Slice:
		for i := range v.Len() {
			eachChange(v.Index(i), f)
		}
		eachLength(v, f)
	case reflect.Bool:
		v.SetBool(!v.Bool())
		f()
		v.SetBool(!v.Bool())
	case reflect.String:
		was := v.String()
		for _, s := range []string{"", "a", "z", "k", "st", "9", "9a", "a9", "A", "a_", "a b", "\u00e4", "a\x00", "\n", "\x7f", "~", "null", strings.Repeat("a", 16), strings.Repeat("a", 17), strings.Repeat("a", 40), strings.Repeat("a", 41)} {
			v.SetString(s)
			f()
		}
		v.SetString(was)
	case reflect.Int:
		was := v.Int()
		for _, n := range []int64{least, least + 1, -mostSum - 1, -mostSum, -mostNumber - 1, -mostNumber, -1000000, -1, 0, 1, 2, 3, 4, 5, 6, 7, 8, 9, 10, 100000, 1000000, mostNumber, mostNumber + 1, mostSum, mostSum + 1, greatest - 1, greatest, was - 1, was + 1, -was} {
			v.SetInt(n)
			f()
		}
		v.SetInt(was)
	}
}

// eachLength calls f for the list without one element or all of them, with one of them twice, with neighbours in the other order, and with more elements than there may be.
func eachLength(v reflect.Value, f func()) {
	was := reflect.ValueOf(v.Interface())
	try := func(parts ...reflect.Value) {
		l := reflect.MakeSlice(v.Type(), 0, 0)
		for _, p := range parts {
			l = reflect.AppendSlice(l, p)
		}
		v.Set(l)
		f()
	}
	for i := range was.Len() {
		one := was.Slice(i, i+1)
		try(was.Slice(0, i), was.Slice(i+1, was.Len()))
		try(was, one)
		try(one, was)
		if i > 0 {
			try(was.Slice(0, i-1), one, was.Slice(i-1, i), was.Slice(i+1, was.Len()))
		}
		many := []reflect.Value{was}
		for range 9 {
			many = append(many, one)
			try(many...)
		}
	}
	try()
	v.Set(was)
}

package rowgroup_test

import (
	"math"
	"math/rand/v2"
	"slices"
	"strings"

	"chapman/api"
)

// The batches that the tests try.

func newRand() *rand.Rand { return rand.New(rand.NewPCG(8, 8)) }

func num(n int) api.Value { return api.Value{K: 2, I: n} }

func str(s string) api.Value { return api.Value{K: 3, S: s} }

func null() api.Value { return api.Value{} }

func no() api.Value { return api.Value{K: 1} }

func yes() api.Value { return api.Value{K: 1, I: 1} }

func bools() api.Type { return api.Type{K: 1} }

func nums(scale int) api.Type { return api.Type{K: 2, Scale: scale} }

func strs() api.Type { return api.Type{K: 3} }

// orNull returns the type that has null too.
func orNull(typ api.Type) api.Type {
	typ.Null = true
	return typ
}

// list returns its arguments.
func list[T any](l ...T) []T { return l }

func many[T any](n int, x T) []T { return slices.Repeat([]T{x}, n) }

// batch returns the batch with these types and columns.
func batch(types []api.Type, cols ...[]api.Value) api.Batch {
	return api.Batch{Types: types, Cols: cols}
}

// small returns a batch of three columns and three rows.
func small() api.Batch {
	return batch(list(nums(2), orNull(strs()), bools()), list(num(unit), num(2*unit), num(-unit/100)), list(str("a"), null(), str("b")), list(no(), yes(), no()))
}

// copyOf returns a batch that shares no memory with b.
func copyOf(b api.Batch) api.Batch {
	c := api.Batch{Types: slices.Clone(b.Types)}
	for _, l := range b.Cols {
		c.Cols = append(c.Cols, slices.Clone(l))
	}
	return c
}

func same(a, b api.Batch) bool {
	return slices.Equal(a.Types, b.Types) && slices.EqualFunc(a.Cols, b.Cols, slices.Equal)
}

// isZero reports whether a batch has nothing.
func isZero(b api.Batch) bool { return len(b.Types) == 0 && len(b.Cols) == 0 }

// someValue returns a value that fits the type; wide numbers are among them.
func someValue(r *rand.Rand, typ api.Type) api.Value {
	switch {
	case typ.Null && r.IntN(4) == 0:
		return null()
	case typ.K == 1:
		return api.Value{K: 1, I: r.IntN(2)}
	case typ.K == 3:
		return str(strings.Repeat("ab~ "[r.IntN(3):], mostText)[:r.IntN(mostText+1)/(1+r.IntN(9))])
	}
	step := int(math.Pow10(6 - typ.Scale))
	n := min(int(r.Uint64()>>(2+r.IntN(62))), mostSum) / step * step
	if r.IntN(2) == 0 {
		return num(-n)
	}
	return num(n)
}

// someColumn returns n values that fit the type: any ones, ones of the same few, or runs.
func someColumn(r *rand.Rand, typ api.Type, n int) []api.Value {
	few := list(someValue(r, typ), someValue(r, typ), someValue(r, typ))
	shape := r.IntN(3)
	l := make([]api.Value, n)
	for i := range l {
		switch {
		case shape == 0 || shape == 1 && r.IntN(5) == 0:
			l[i] = someValue(r, typ)
		case shape == 1 && i > 0:
			l[i] = l[i-1]
		default:
			l[i] = few[r.IntN(len(few))]
		}
	}
	return l
}

func someBatch(r *rand.Rand, cols, rows int) api.Batch {
	var b api.Batch
	for range cols {
		typ := validTypes[r.IntN(18)]
		b.Types = append(b.Types, typ)
		b.Cols = append(b.Cols, someColumn(r, typ, rows))
	}
	return b
}

// eachSmallBatch calls f with valid batches of at most 60 rows: all types, all numbers of columns, without rows and with them.
func eachSmallBatch(f func(b api.Batch)) {
	r := newRand()
	f(small())
	long := str(strings.Repeat("~", mostText))
	f(batch(list(orNull(strs()), nums(6), nums(0)), list(long, str(""), null(), long), list(num(mostSum), num(-mostSum), num(1), num(0)), list(num(mostSum), num(-mostSum), num(unit), num(0))))
	for _, typ := range validTypes {
		for n := range 5 {
			f(batch(list(typ), someColumn(r, typ, n)))
			f(batch(list(typ, typ), someColumn(r, typ, n), someColumn(r, typ, n)))
		}
	}
	f(batch(validTypes, make([][]api.Value, 18)...))
	for cols := 1; cols <= mostCols; cols++ {
		for _, rows := range []int{0, 1, 2, 7} {
			f(someBatch(r, cols, rows))
		}
	}
	for range 1000 {
		f(someBatch(r, 1+r.IntN(5), r.IntN(12)))
	}
	for range 30 {
		f(someBatch(r, 1+r.IntN(mostCols), r.IntN(61)))
	}
}

// eachBatch calls f with these, and with batches whose numbers of rows or of bytes need two bytes or three.
func eachBatch(f func(b api.Batch)) {
	eachSmallBatch(f)
	r := newRand()
	for _, rows := range []int{127, 128, 129, 500, 2047, 2048, mostRows - 1, mostRows} {
		f(someBatch(r, 1, rows))
		f(someBatch(r, 3, rows))
	}
	f(batch(list(bools(), nums(0)), many(mostRows, yes()), many(mostRows, num(mostSum))))
	f(batch(list(strs()), someColumn(r, strs(), mostRows)))
	f(someBatch(r, mostCols, 400))
}

// badTypes returns types that are not valid.
func badTypes() []api.Type {
	l := []api.Type{{}, {Null: true}, {K: 4}, {K: -1}, {K: 1, Scale: 1}, {K: 1, Scale: -1}, {K: 3, Scale: 6}, {K: 2, Scale: 7}, {K: 2, Scale: -1}, {K: 257}, {K: math.MinInt}, {K: 2, Scale: math.MaxInt}}
	for x := range 256 {
		typ := api.Type{K: x / 16, Scale: x % 16 / 2, Null: x%2 == 1}
		if _, ok := typeBytes[byte(x)]; !ok {
			l = append(l, typ)
		}
	}
	return l
}

// badValue returns a value that fits no valid type, or not the type.
func badValue(r *rand.Rand, typ api.Type) api.Value {
	l := []api.Value{{K: 1, I: 2}, {K: 4}, {I: 1}, {K: -1}, {K: 3, I: 1}, str("a\n"), str(strings.Repeat("a", mostText+1)), num(mostSum + 1), num(math.MinInt)}
	switch typ.K {
	case 1:
		l = append(l, num(0), str(""))
	case 2:
		l = append(l, no(), str("0"))
	case 3:
		l = append(l, yes(), num(unit))
	}
	if !typ.Null {
		l = append(l, null())
	}
	if typ.K == 2 && typ.Scale < 6 {
		l = append(l, num(unit/int(math.Pow10(typ.Scale+1))))
	}
	return l[r.IntN(len(l))]
}

// changedBatches returns batches that differ from the valid batch b at one place, or have too many rows, too; nearly all of them are not valid.
func changedBatches(r *rand.Rand, b api.Batch) []api.Batch {
	n, rows := len(b.Types), len(b.Cols[0])
	k := r.IntN(n)
	var l []api.Batch
	change := func(f func(c *api.Batch)) {
		c := copyOf(b)
		f(&c)
		l = append(l, c)
	}
	change(func(c *api.Batch) { c.Types = append(c.Types, bools()) })
	change(func(c *api.Batch) { c.Types = c.Types[:n-1] })
	change(func(c *api.Batch) { c.Cols = append(c.Cols, c.Cols[k]) })
	change(func(c *api.Batch) { c.Cols = c.Cols[:n-1] })
	change(func(c *api.Batch) { c.Types, c.Cols = c.Types[:n-1], c.Cols[:n-1] })
	change(func(c *api.Batch) { c.Types, c.Cols = nil, nil })
	change(func(c *api.Batch) { c.Cols[k] = append(c.Cols[k], someValue(r, c.Types[k])) })
	change(func(c *api.Batch) { c.Cols[k] = c.Cols[k][:max(rows-1, 0)] })
	change(func(c *api.Batch) { c.Types[k] = badTypes()[r.IntN(len(badTypes()))] })
	change(func(c *api.Batch) { c.Types[k] = validTypes[r.IntN(18)] })
	if rows > 0 {
		i := []int{0, rows - 1, r.IntN(rows)}[r.IntN(3)]
		change(func(c *api.Batch) { c.Cols[k][i] = badValue(r, c.Types[k]) })
	}
	if rows > 0 && r.IntN(40) == 0 {
		change(func(c *api.Batch) {
			for i := range c.Cols {
				c.Cols[i] = slices.Repeat(c.Cols[i], mostRows/rows+1)
			}
			if r.IntN(2) == 0 {
				c.Cols[k][r.IntN(rows)] = badValue(r, c.Types[k])
			}
		})
	}
	return l
}

// eachLonger calls f with each sequence that begins with l and has up to n further elements.
func eachLonger[T any](l, alphabet []T, n int, f func(l []T)) {
	f(l)
	if n == 0 {
		return
	}
	for _, x := range alphabet {
		eachLonger(append(slices.Clone(l), x), alphabet, n-1, f)
	}
}

// changes calls f with bytes that were changed, cut short or made longer at one place.
func changes(r *rand.Rand, b []byte, f func(b []byte)) {
	i := r.IntN(len(b))
	f(b[:i])
	f(append(slices.Clone(b), byte(r.IntN(256))))
	f(slices.Delete(slices.Clone(b), i, i+1))
	f(slices.Insert(slices.Clone(b), i, byte(r.IntN(256))))
	flipped := slices.Clone(b)
	flipped[i] ^= 1 << r.IntN(8)
	f(flipped)
	other := slices.Clone(b)
	other[i] = byte(r.IntN(60))
	f(other)
}

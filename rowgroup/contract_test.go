package rowgroup_test

import (
	"bytes"
	"math"
	"slices"
	"testing"

	"chapman/api"
	"chapman/column"
	"chapman/rowgroup"
)

// These tests are for P8.1 (contract), for H7 and for P1 of the document.

// short returns the first elements of a list, for a message.
func short[T any](l []T) []T { return l[:min(len(l), 40)] }

// checkBatch is for Valid, Encode and Rows.
func checkBatch(t *testing.T, b api.Batch) {
	t.Helper()
	rows, e := modelRows(b)
	if ok := rowgroup.Valid(b); ok != (e == api.OK) {
		t.Errorf("Valid of the types %v: %t instead of %d", b.Types, ok, e)
	}
	want, wantE := modelEncode(b)
	if got, e := rowgroup.Encode(b); !bytes.Equal(got, want) || e != wantE || e != api.OK && got != nil {
		t.Errorf("Encode for the types %v: %v, %d instead of %v, %d", b.Types, short(got), e, short(want), wantE)
	}
	got := rowgroup.Rows(b) // which must not panic, whatever b is
	if e == api.OK && !slices.EqualFunc(got, rows, slices.Equal) {
		t.Errorf("Rows for the types %v: %v instead of %v", b.Types, short(got), short(rows))
	}
}

func checkOf(t *testing.T, types []api.Type, rows [][]api.Value) {
	t.Helper()
	want, wantE := modelOf(types, rows)
	if b, e := rowgroup.Of(types, rows); !same(b, want) || e != wantE || e != api.OK && !isZero(b) {
		t.Errorf("Of the types %v and %d rows %v: %d instead of %d", types, len(rows), short(rows), e, wantE)
	}
}

func checkDecode(t *testing.T, b []byte) {
	t.Helper()
	want, wantRest, wantE := modelDecode(b)
	got, rest, e := rowgroup.Decode(b)
	if !same(got, want) || !bytes.Equal(rest, wantRest) || e != wantE || e != api.OK && !(isZero(got) && rest == nil) {
		t.Errorf("Decode(%v): %v, %v, %d instead of %v, %v, %d", short(b), got.Types, short(rest), e, want.Types, short(wantRest), wantE)
	}
}

func checkColumn(t *testing.T, b []byte, i int) {
	t.Helper()
	want, wantL, wantE := modelColumn(b, i)
	typ, l, e := rowgroup.Column(b, i)
	if typ != want || !slices.Equal(l, wantL) || e != wantE || e != api.OK && l != nil {
		t.Errorf("Column(%v, %d): %v, %v, %d instead of %v, %v, %d", short(b), i, typ, short(l), e, want, short(wantL), wantE)
	}
}

// checkBytes is for Decode, and for Column with indices of columns and with others.
func checkBytes(t *testing.T, b []byte) {
	t.Helper()
	checkDecode(t, b)
	n := int(modelPieces(b).cols)
	for _, i := range []int{0, 1, n - 1, n, -1} {
		checkColumn(t, b, i)
	}
}

// checkParts is for Project and Select.
func checkParts(t *testing.T, b api.Batch, indices []int) {
	t.Helper()
	want, wantE := modelProject(b, indices)
	if got, e := rowgroup.Project(b, indices); !same(got, want) || e != wantE || e != api.OK && !isZero(got) {
		t.Errorf("Project for the types %v and %v: %v, %d instead of %v, %d", b.Types, short(indices), got.Types, e, want.Types, wantE)
	}
	want, wantE = modelSelect(b, indices)
	if got, e := rowgroup.Select(b, indices); !same(got, want) || e != wantE || e != api.OK && !isZero(got) {
		t.Errorf("Select for the types %v and %v: %d instead of %d", b.Types, short(indices), e, wantE)
	}
}

func checkConcat(t *testing.T, a, b api.Batch) {
	t.Helper()
	want, wantE := modelConcat(a, b)
	if got, e := rowgroup.Concat(a, b); !same(got, want) || e != wantE || e != api.OK && !isZero(got) {
		t.Errorf("Concat for the types %v and %v: %d instead of %d", a.Types, b.Types, e, wantE)
	}
}

func TestExample(t *testing.T) {
	rows := [][]api.Value{{num(unit), str("a")}, {num(2 * unit), str("a")}}
	b, e := rowgroup.Of(list(nums(0), strs()), rows)
	if want := batch(list(nums(0), strs()), list(num(unit), num(2*unit)), list(str("a"), str("a"))); !same(b, want) || e != api.OK {
		t.Fatal("Of:", b, e)
	}
	want := []byte{2, 2, 32, 5, 6, 2, 2, 2, 0, 48, 7, 0, 0, 2, 2, 0, 'a', 'a'}
	if got, e := rowgroup.Encode(b); !bytes.Equal(got, want) || e != api.OK {
		t.Error("Encode:", got, e)
	}
	if got, rest, e := rowgroup.Decode(append(want, 9)); !same(got, b) || !bytes.Equal(rest, []byte{9}) || e != api.OK {
		t.Error("Decode:", got, rest, e)
	}
	if typ, l, e := rowgroup.Column(want, 1); typ != strs() || !slices.Equal(l, b.Cols[1]) || e != api.OK {
		t.Error("Column:", typ, l, e)
	}
}

func TestValid(t *testing.T) {
	three, wide := list(no(), yes(), no()), list(num(mostSum), num(-mostSum), num(0))
	for i, c := range []struct {
		b api.Batch
		e api.Errno
	}{
		{small(), api.OK}, {api.Batch{}, api.ErrType}, {batch(list(bools())), api.ErrType}, {batch(nil, three), api.ErrType}, {batch(list(bools()), nil), api.OK}, {batch(list(bools()), three), api.OK}, {batch(list(bools()), three, three), api.ErrType}, {batch(list(bools(), bools()), three), api.ErrType}, {batch(list(bools(), bools()), three, three), api.OK},
		// The lengths of columns.
		{batch(list(bools(), bools()), three, three[:2]), api.ErrType}, {batch(list(bools(), bools()), three[:2], three), api.ErrType}, {batch(list(bools(), bools()), nil, three), api.ErrType}, {batch(list(bools(), bools()), three, nil), api.ErrType}, {batch(list(bools(), bools(), bools()), three, three[:2], three), api.ErrType}, {batch(list(bools(), bools()), nil, nil), api.OK},
		// The types, with rows and without them.
		{batch(list(api.Type{}), nil), api.ErrType}, {batch(list(bools(), api.Type{}), nil, nil), api.ErrType}, {batch(list(api.Type{Null: true}), list(null())), api.ErrType}, {batch(list(nums(7)), nil), api.ErrType}, {batch(list(nums(-1)), nil), api.ErrType}, {batch(list(api.Type{K: 1, Scale: 1}), three), api.ErrType}, {batch(list(api.Type{K: 4}), nil), api.ErrType},
		// The values.
		{batch(list(nums(0), strs()), three, three), api.ErrType}, {batch(list(bools(), strs()), three, three), api.ErrType}, {batch(list(bools(), nums(0)), three, wide), api.OK}, {batch(list(bools(), nums(6)), three, list(num(1), num(mostSum), num(mostSum+1))), api.ErrType}, {batch(list(nums(5)), list(num(1))), api.ErrType}, {batch(list(nums(5)), list(num(10))), api.OK}, {batch(list(bools()), list(null())), api.ErrType}, {batch(list(orNull(bools())), list(null())), api.OK},
		// The numbers of columns and of rows.
		{batch(many(32, bools()), many(32, three)...), api.OK}, {batch(many(33, bools()), many(33, three)...), api.ErrType}, {batch(many(33, bools()), make([][]api.Value, 33)...), api.ErrType}, {batch(many(32, bools()), make([][]api.Value, 33)...), api.ErrType}, {batch(many(5000, bools()), make([][]api.Value, 5000)...), api.ErrType},
		{batch(list(bools()), many(4096, yes())), api.OK}, {batch(list(bools()), many(4097, yes())), api.ErrBig}, {batch(list(bools(), bools()), many(4097, yes()), many(4096, yes())), api.ErrType}, {batch(list(bools(), bools()), many(4096, yes()), many(4097, yes())), api.ErrType}, {batch(list(bools(), bools()), many(4097, yes()), many(4097, null())), api.ErrType}, {batch(many(33, bools()), many(33, many(4097, yes()))...), api.ErrType}, {batch(list(bools()), many(100000, yes())), api.ErrBig}, {batch(list(bools()), append(many(100000, yes()), null())), api.ErrType},
	} {
		if b, e := rowgroup.Encode(c.b); e != c.e || e != api.OK && b != nil {
			t.Errorf("Encode of case %d: %v, %d instead of %d", i, short(b), e, c.e)
		}
		if ok := rowgroup.Valid(c.b); ok != (c.e == api.OK) {
			t.Errorf("Valid of case %d: %t", i, ok)
		}
		checkBatch(t, c.b)
		checkParts(t, c.b, list(0))
		checkConcat(t, c.b, c.b)
		checkConcat(t, c.b, batch(list(bools()), three))
		checkConcat(t, batch(list(bools()), three), c.b)
	}
}

func TestInvalidTypes(t *testing.T) {
	for _, typ := range badTypes() {
		for _, b := range []api.Batch{batch(list(typ), nil), batch(list(bools(), typ), nil, nil), batch(list(typ), list(null())), batch(list(typ, bools()), list(yes()), list(yes()))} {
			checkBatch(t, b)
			checkOf(t, b.Types, nil)
			checkOf(t, b.Types, [][]api.Value{many(len(b.Types), yes())})
		}
	}
	for _, typ := range validTypes {
		checkBatch(t, batch(list(typ), nil))
		checkOf(t, list(typ), nil)
	}
}

func TestBatchesFollowTheModel(t *testing.T) {
	r := newRand()
	eachBatch(func(b api.Batch) { checkBatch(t, b) })
	eachSmallBatch(func(b api.Batch) {
		for _, c := range changedBatches(r, b) {
			checkBatch(t, c)
			checkParts(t, c, list(0))
			checkConcat(t, c, b)
			checkConcat(t, b, c)
		}
	})
}

func TestOf(t *testing.T) {
	two := list(nums(2), orNull(strs()))
	row, other, odd := list(num(unit), str("a")), list(num(10000), null()), list(num(1), null())
	for i, c := range []struct {
		types []api.Type
		rows  [][]api.Value
		e     api.Errno
	}{
		{nil, nil, api.ErrType}, {nil, list(row), api.ErrType}, {nil, [][]api.Value{nil, {}}, api.ErrType}, {two, nil, api.OK}, {two, list(row), api.OK}, {two, list(row, other, row), api.OK}, {two, list(row, odd), api.ErrType}, {two, list(odd, row), api.ErrType}, {two, list(row[:1]), api.ErrType}, {two, list(row, nil), api.ErrType}, {two, list(nil, row), api.ErrType}, {two, list(row, append(slices.Clone(row), null())), api.ErrType}, {two[:1], list(row), api.ErrType}, {two[:1], list(row[:1]), api.OK}, {list(two[1], two[0]), list(row), api.ErrType}, {two, list(list(null(), null())), api.ErrType}, {list(two[0], api.Type{}), nil, api.ErrType}, {list(nums(0)), list(list(num(mostSum))), api.OK},
		{many(32, bools()), nil, api.OK}, {many(33, bools()), nil, api.ErrType}, {many(32, bools()), list(many(32, yes())), api.OK}, {many(33, bools()), list(many(33, yes())), api.ErrType},
		{two, many(4096, row), api.OK}, {two, many(4097, row), api.ErrBig}, {two, append(many(4097, row), odd), api.ErrType}, {two, append(many(4097, row), row[:1]), api.ErrType}, {two, append([][]api.Value{odd}, many(4097, row)...), api.ErrType}, {many(33, bools()), many(4097, many(33, yes())), api.ErrType}, {two, many(50000, row), api.ErrBig}, {two, make([][]api.Value, 50000), api.ErrType},
	} {
		if b, e := rowgroup.Of(c.types, c.rows); e != c.e || rowgroup.Valid(b) != (e == api.OK) {
			t.Errorf("Of case %d: %d instead of %d", i, e, c.e)
		}
		checkOf(t, c.types, c.rows)
	}
	if b, e := rowgroup.Of(two, nil); e != api.OK || len(b.Cols) != 2 || len(b.Cols[0])+len(b.Cols[1]) != 0 {
		t.Error("Of no rows:", b, e)
	}
}

func TestOfFollowsTheModel(t *testing.T) {
	r := newRand()
	eachSmallBatch(func(b api.Batch) {
		rows, _ := modelRows(b)
		checkOf(t, b.Types, rows)
		if len(rows) == 0 {
			return
		}
		i, k := r.IntN(len(rows)), r.IntN(len(b.Types))
		for _, row := range [][]api.Value{nil, rows[i][:k], append(slices.Clone(rows[i]), rows[i][k]), slices.Concat(rows[i][:k], list(badValue(r, b.Types[k])), rows[i][k+1:])} {
			changed := slices.Clone(rows)
			changed[i] = row
			checkOf(t, b.Types, changed)
		}
		checkOf(t, b.Types[:k], rows)
		checkOf(t, append(slices.Clone(b.Types), b.Types[k]), rows)
	})
}

// far returns bytes that are a variable-length code of a number that no int has, or of one that no int of 32 bits has.
func far() [][]byte {
	return [][]byte{{128, 128, 128, 128, 16}, {129, 128, 128, 128, 16}, append(bytes.Repeat([]byte{255}, 9), 1), append(bytes.Repeat([]byte{128}, 9), 1), append(append([]byte{129}, bytes.Repeat([]byte{128}, 8)...), 1), append(bytes.Repeat([]byte{255}, 8), 127)}
}

func TestDecodeOfHeads(t *testing.T) {
	cases := []struct {
		b []byte
		e api.Errno
	}{
		{nil, api.ErrShort}, {[]byte{128}, api.ErrShort}, {[]byte{128, 0}, api.ErrForm}, {[]byte{128, 0, 1}, api.ErrForm}, {bytes.Repeat([]byte{255}, 9), api.ErrShort}, {bytes.Repeat([]byte{255}, 10), api.ErrForm},
		{[]byte{128, 32}, api.ErrShort}, {[]byte{129, 32}, api.ErrForm}, {[]byte{129, 32, 1}, api.ErrForm}, {[]byte{129, 32, 128}, api.ErrForm}, {[]byte{128, 32, 128}, api.ErrShort},
		{[]byte{0}, api.ErrShort}, {[]byte{0, 0}, api.ErrForm}, {[]byte{0, 1}, api.ErrShort}, {[]byte{0, 32}, api.ErrShort}, {[]byte{0, 33}, api.ErrForm}, {[]byte{0, 33, 16}, api.ErrForm}, {[]byte{0, 128}, api.ErrShort}, {[]byte{0, 128, 1}, api.ErrForm}, {[]byte{0, 129, 0}, api.ErrForm}, {append([]byte{0}, bytes.Repeat([]byte{128}, 9)...), api.ErrShort}, {append([]byte{0}, bytes.Repeat([]byte{128}, 10)...), api.ErrForm}, {[]byte{0, 0, 0}, api.ErrForm},
	}
	for _, n := range far() {
		for _, b := range [][]byte{n, append(slices.Clone(n), 1), append([]byte{0}, n...)} {
			cases = append(cases, struct {
				b []byte
				e api.Errno
			}{b, api.ErrForm})
		}
	}
	for _, c := range cases {
		if b, rest, e := rowgroup.Decode(c.b); e != c.e || !isZero(b) || rest != nil {
			t.Errorf("Decode(%v): %v, %v, %d instead of %d", c.b, b, rest, e, c.e)
		}
		checkBytes(t, c.b)
	}
}

// P8.1: the byte of the type, and the length of the chunk.
func TestDecodeOfColumnHeads(t *testing.T) {
	for x := range 256 {
		b := byte(x)
		e := api.ErrForm
		if _, ok := typeBytes[b]; ok {
			e = api.ErrShort
		}
		for _, c := range [][]byte{{0, 1, b}, {0, 1, b, 9}, {0, 1, b, 128}, {0, 2, 16, 2, 0, 0, b}} {
			if _, _, got := rowgroup.Decode(c); got != e {
				t.Errorf("Decode(%v): %d instead of %d", c, got, e)
			}
			checkBytes(t, c)
		}
		checkBytes(t, []byte{0, 1, b, 0})
		checkBytes(t, []byte{0, 1, b, 128, 0})
		checkBytes(t, []byte{0, 1, b, 2, 0, 0})
		checkBytes(t, []byte{0, 2, b, 2, 0, 0, b, 3, 6, 0, 0})
		for _, n := range far() {
			checkBytes(t, append([]byte{0, 1, b}, n...))
			checkBytes(t, slices.Concat([]byte{0, 1, b}, n, []byte{0, 0}))
		}
	}
	for _, n := range far() {
		if _, _, e := rowgroup.Decode(slices.Concat([]byte{0, 1, 16}, n, []byte{0, 0})); e != api.ErrShort {
			t.Errorf("Decode with a chunk of %v bytes: %d", n, e)
		}
	}
}

func TestDecodeOfChunks(t *testing.T) {
	two := chunk(bools(), yes(), no())
	proper, other := piece(bools(), two), piece(nums(0), chunk(nums(0), num(unit), num(0)))
	for i, c := range []struct {
		b []byte
		e api.Errno
	}{
		{group(2, 1, proper), api.OK}, {group(2, 1, proper, proper), api.OK}, {group(2, 2, proper, other), api.OK}, {group(2, 2, proper), api.ErrShort}, {group(0, 1, piece(bools(), chunk(bools()))), api.OK},
		// Other numbers of values than of rows.
		{group(0, 1, proper), api.ErrForm}, {group(1, 1, proper), api.ErrForm}, {group(3, 1, proper), api.ErrForm}, {group(4096, 1, proper), api.ErrForm}, {group(2, 2, proper, piece(bools(), chunk(bools(), yes()))), api.ErrForm}, {group(2, 2, piece(bools(), chunk(bools())), proper), api.ErrForm}, {group(2, 1, piece(bools(), chunk(bools()))), api.ErrForm},
		// Chunks that are none, that are cut short, or that have further bytes.
		{group(2, 1, piece(bools(), nil)), api.ErrForm}, {group(0, 1, piece(bools(), nil)), api.ErrForm}, {group(0, 1, piece(bools(), nil), chunk(bools())), api.ErrForm}, {group(2, 1, piece(bools(), two[:len(two)-1])), api.ErrForm}, {group(2, 1, piece(bools(), two[:len(two)-1]), two[len(two)-1:]), api.ErrForm}, {group(2, 1, piece(bools(), append(slices.Clone(two), 0))), api.ErrForm}, {group(2, 1, piece(bools(), slices.Concat(two, two))), api.ErrForm}, {group(2, 1, piece(bools(), chunk(nums(6), num(1), num(2)))), api.ErrForm}, {group(2, 1, piece(orNull(bools()), two)), api.ErrForm}, {group(1, 1, piece(nums(5), chunk(nums(6), num(1)))), api.ErrForm}, {group(1, 1, piece(nums(6), chunk(nums(6), num(1)))), api.OK},
		// The first of two errors.
		{group(2, 2, piece(bools(), nil), []byte{0}), api.ErrForm}, {group(2, 2, piece(bools(), nil)), api.ErrForm}, {group(1, 2, proper), api.ErrForm}, {group(2, 2, proper, []byte{0}), api.ErrForm}, {group(2, 2, proper, []byte{16}), api.ErrShort}, {group(2, 2, proper, []byte{16, 128, 0}), api.ErrForm}, {group(2, 2, proper, []byte{16, 3, 0, 2}), api.ErrShort}, {group(2, 2, []byte{16, 99}, two), api.ErrShort}, {group(2, 3, proper, piece(bools(), nil), []byte{16}), api.ErrForm},
	} {
		if _, _, e := rowgroup.Decode(c.b); e != c.e {
			t.Errorf("case %d, Decode(%v): %d instead of %d", i, c.b, e, c.e)
		}
		checkBytes(t, c.b)
	}
}

func TestColumn(t *testing.T) {
	none := []byte{99, 99}
	x, y := list(yes(), no()), list(num(unit), num(7*unit))
	proper, other := piece(bools(), chunk(bools(), x...)), piece(nums(0), chunk(nums(0), y...))
	for i, c := range []struct {
		b   []byte
		i   int
		typ api.Type
		l   []api.Value
		e   api.Errno
	}{
		{group(2, 2, proper, other), 0, bools(), x, api.OK}, {group(2, 2, proper, other), 1, nums(0), y, api.OK}, {group(2, 1, proper, other), 0, bools(), x, api.OK}, {group(0, 1, piece(strs(), chunk(strs()))), 0, strs(), nil, api.OK},
		// The errors of both numbers come first, and then ErrNone.
		{nil, 5, api.Type{}, nil, api.ErrShort}, {[]byte{2}, 5, api.Type{}, nil, api.ErrShort}, {[]byte{2, 0}, 5, api.Type{}, nil, api.ErrForm}, {[]byte{2, 0}, -1, api.Type{}, nil, api.ErrForm}, {[]byte{2, 33}, 0, api.Type{}, nil, api.ErrForm}, {[]byte{2, 33}, 32, api.Type{}, nil, api.ErrForm}, {[]byte{129, 32}, -1, api.Type{}, nil, api.ErrForm}, {[]byte{2, 2}, 2, api.Type{}, nil, api.ErrNone}, {[]byte{2, 2}, -1, api.Type{}, nil, api.ErrNone}, {[]byte{2, 2, 0}, 2, api.Type{}, nil, api.ErrNone}, {group(2, 2, proper, other), 2, api.Type{}, nil, api.ErrNone}, {group(2, 2, proper, other, proper), 2, api.Type{}, nil, api.ErrNone}, {group(2, 2, proper, other), -1, api.Type{}, nil, api.ErrNone}, {group(2, 2, proper, other), math.MaxInt, api.Type{}, nil, api.ErrNone}, {group(2, 2, proper, other), math.MinInt, api.Type{}, nil, api.ErrNone}, {group(2, 2, proper, other), 1 << 32, api.Type{}, nil, api.ErrNone}, {[]byte{2, 2}, 1, api.Type{}, nil, api.ErrShort}, {[]byte{2, 32}, 31, api.Type{}, nil, api.ErrShort},
		// The chunks of other columns do not matter; their types and lengths do, ahead of the column.
		{group(2, 2, piece(bools(), none), other), 1, nums(0), y, api.OK}, {group(2, 2, piece(bools(), nil), other), 1, nums(0), y, api.OK}, {group(2, 2, piece(bools(), chunk(bools())), other), 1, nums(0), y, api.OK}, {group(2, 2, piece(bools(), none), other), 0, api.Type{}, nil, api.ErrForm}, {group(2, 2, proper, piece(nums(0), none)), 0, bools(), x, api.OK}, {group(2, 2, proper, piece(nums(0), none)), 1, api.Type{}, nil, api.ErrForm}, {group(2, 2, []byte{0, 0}, other), 1, api.Type{}, nil, api.ErrForm}, {group(2, 2, []byte{16, 128, 0}, other), 1, api.Type{}, nil, api.ErrForm}, {group(2, 2, []byte{16, 99, 0}, other), 1, api.Type{}, nil, api.ErrShort}, {group(2, 3, proper, []byte{0}), 2, api.Type{}, nil, api.ErrForm}, {group(2, 3, proper, []byte{17}), 2, api.Type{}, nil, api.ErrShort},
		// Behind the column nothing matters.
		{group(2, 2, proper), 0, bools(), x, api.OK}, {group(2, 2, proper), 1, api.Type{}, nil, api.ErrShort}, {group(2, 2, proper, none), 0, bools(), x, api.OK}, {group(2, 2, proper, none), 1, api.Type{}, nil, api.ErrForm}, {group(2, 32, proper, []byte{16, 128}), 0, bools(), x, api.OK},
		// Its own chunk.
		{group(3, 1, proper), 0, api.Type{}, nil, api.ErrForm}, {group(1, 2, piece(bools(), none), proper), 1, api.Type{}, nil, api.ErrForm}, {group(2, 1, piece(bools(), nil)), 0, api.Type{}, nil, api.ErrForm}, {group(2, 1, piece(bools(), append(chunk(bools(), x...), 0))), 0, api.Type{}, nil, api.ErrForm},
	} {
		if typ, l, e := rowgroup.Column(c.b, c.i); typ != c.typ || !slices.Equal(l, c.l) || e != c.e || e != api.OK && l != nil {
			t.Errorf("case %d, Column(%v, %d): %v, %v, %d instead of %v, %v, %d", i, c.b, c.i, typ, l, e, c.typ, c.l, c.e)
		}
		checkColumn(t, c.b, c.i)
	}
}

func TestShortSequences(t *testing.T) {
	check := func(b []byte) { checkBytes(t, b) }
	eachLonger(nil, []byte{0, 1, 2, 3, 16, 48, 128}, 5, check)
	eachLonger([]byte{0, 1}, []byte{0, 2, 3, 6, 16, 33}, 5, check)
	eachLonger([]byte{0, 1, 16}, []byte{0, 1, 2, 3, 4, 128}, 5, check)
	eachLonger([]byte{1, 1, 32}, []byte{0, 1, 2, 5, 6}, 6, check)
	eachLonger([]byte{0, 2, 16, 2, 0, 0}, []byte{0, 2, 3, 6, 16, 33}, 5, check)
	eachLonger([]byte{1, 2, 16, 4, 0, 1, 2, 0}, []byte{0, 1, 2, 4, 16}, 6, check)
}

func TestChangedGroups(t *testing.T) {
	r := newRand()
	eachSmallBatch(func(b api.Batch) {
		form, _ := modelEncode(b)
		for range 5 {
			changes(r, form, func(b []byte) { checkBytes(t, b) })
		}
	})
}

// P1: any bytes.
func TestAnyBytes(t *testing.T) {
	r := newRand()
	for range 50000 {
		b := make([]byte, r.IntN(40))
		for i := range b {
			b[i] = byte(r.Uint64() >> r.IntN(64))
		}
		for i := range min(len(b), r.IntN(4)) {
			b[i] = []byte{1, 2, 16, 5}[i]
		}
		checkBytes(t, b)
		checkColumn(t, b, int(r.Uint64()))
	}
	for x := range 256 {
		checkBytes(t, bytes.Repeat([]byte{byte(x)}, 100000))
		checkBytes(t, append([]byte{1, 32}, bytes.Repeat([]byte{byte(x)}, 100000)...))
	}
}

func TestProject(t *testing.T) {
	b := small()
	for i, c := range []struct {
		b    api.Batch
		cols []int
		e    api.Errno
	}{
		{b, list(0), api.OK}, {b, list(2), api.OK}, {b, list(2, 0, 2), api.OK}, {b, list(0, 1, 2), api.OK}, {b, nil, api.ErrArg}, {b, []int{}, api.ErrArg}, {b, list(3), api.ErrArg}, {b, list(-1), api.ErrArg}, {b, list(0, 3), api.ErrArg}, {b, list(-1, 0), api.ErrArg}, {b, list(0, 1, math.MaxInt, 1), api.ErrArg}, {b, list(math.MinInt), api.ErrArg}, {b, many(32, 1), api.OK}, {b, many(33, 1), api.ErrArg}, {b, many(33, 7), api.ErrArg},
		{api.Batch{}, list(0), api.ErrArg}, {api.Batch{}, nil, api.ErrArg}, {batch(b.Types, b.Cols[:2]...), list(0), api.ErrArg}, {batch(b.Types[:2], b.Cols...), list(0), api.ErrArg}, {batch(list(bools(), nums(0)), list(yes()), list(num(1))), list(0), api.ErrArg}, {batch(list(bools()), many(4097, yes())), list(0), api.ErrArg}, {batch(many(33, bools()), make([][]api.Value, 33)...), list(0), api.ErrArg}, {batch(list(bools(), strs()), nil, nil), list(1, 1), api.OK},
	} {
		if p, e := rowgroup.Project(c.b, c.cols); e != c.e || rowgroup.Valid(p) != (e == api.OK) {
			t.Errorf("Project case %d: %v, %d instead of %d", i, p, e, c.e)
		}
		checkParts(t, c.b, c.cols)
	}
	if p, e := rowgroup.Project(b, list(2, 0, 2)); e != api.OK || !same(p, batch(list(b.Types[2], b.Types[0], b.Types[2]), b.Cols[2], b.Cols[0], b.Cols[2])) {
		t.Error("Project:", p, e)
	}
}

func TestSelect(t *testing.T) {
	b := small()
	for i, c := range []struct {
		b    api.Batch
		rows []int
		e    api.Errno
	}{
		{b, nil, api.OK}, {b, list(0), api.OK}, {b, list(2, 2, 0), api.OK}, {b, list(3), api.ErrArg}, {b, list(-1), api.ErrArg}, {b, list(0, 1, 3), api.ErrArg}, {b, list(-1, 0), api.ErrArg}, {b, list(math.MaxInt), api.ErrArg}, {b, list(math.MinInt), api.ErrArg}, {b, many(4096, 2), api.OK}, {b, many(4097, 2), api.ErrArg}, {b, many(4097, 5), api.ErrArg},
		{batch(list(bools()), nil), nil, api.OK}, {batch(list(bools()), nil), list(0), api.ErrArg}, {batch(list(bools()), many(4096, yes())), list(4095), api.OK}, {batch(list(bools()), many(4096, yes())), list(4096), api.ErrArg},
		{api.Batch{}, nil, api.ErrArg}, {api.Batch{}, list(0), api.ErrArg}, {batch(b.Types, b.Cols[:2]...), nil, api.ErrArg}, {batch(b.Types[:2], b.Cols...), list(0), api.ErrArg}, {batch(list(bools(), bools()), list(yes()), nil), nil, api.ErrArg}, {batch(list(nums(0)), list(num(1))), nil, api.ErrArg}, {batch(list(bools()), many(4097, yes())), list(0), api.ErrArg},
	} {
		if s, e := rowgroup.Select(c.b, c.rows); e != c.e || rowgroup.Valid(s) != (e == api.OK) {
			t.Errorf("Select case %d: %d instead of %d", i, e, c.e)
		}
		checkParts(t, c.b, c.rows)
	}
	if s, e := rowgroup.Select(b, list(2, 2, 0)); e != api.OK || !same(s, batch(b.Types, list(num(-unit/100), num(-unit/100), num(unit)), list(str("b"), str("b"), str("a")), list(no(), no(), no()))) {
		t.Error("Select:", s, e)
	}
}

func TestConcat(t *testing.T) {
	b, none := small(), batch(small().Types, nil, nil, nil)
	one := batch(list(bools()), list(yes()))
	full := batch(list(bools()), many(4096, no()))
	half := batch(list(bools()), many(2048, no()))
	more := batch(list(bools()), many(2049, yes()))
	for i, c := range []struct {
		a, b api.Batch
		e    api.Errno
	}{
		{b, b, api.OK}, {b, none, api.OK}, {none, b, api.OK}, {none, none, api.OK}, {b, one, api.ErrType}, {one, b, api.ErrType}, {one, batch(list(orNull(bools())), list(yes())), api.ErrType}, {batch(list(nums(1)), list(num(0))), batch(list(nums(2)), list(num(0))), api.ErrType}, {batch(list(bools(), strs()), nil, nil), batch(list(strs(), bools()), nil, nil), api.ErrType}, {batch(list(bools(), strs()), nil, nil), batch(list(bools()), nil), api.ErrType}, {batch(list(bools()), nil), batch(list(bools(), strs()), nil, nil), api.ErrType},
		{full, one, api.ErrBig}, {one, full, api.ErrBig}, {full, full, api.ErrBig}, {half, half, api.OK}, {half, more, api.ErrBig}, {more, half, api.ErrBig}, {full, batch(list(bools()), nil), api.OK}, {batch(list(bools()), nil), full, api.OK}, {full, b, api.ErrType},
		{b, api.Batch{}, api.ErrType}, {api.Batch{}, b, api.ErrType}, {api.Batch{}, api.Batch{}, api.ErrType}, {one, batch(list(bools()), list(num(0))), api.ErrType}, {batch(list(bools()), list(num(0))), one, api.ErrType}, {one, batch(list(bools()), many(4097, no())), api.ErrType}, {batch(list(bools()), many(4097, no())), one, api.ErrType}, {full, batch(list(bools()), list(null())), api.ErrType}, {batch(b.Types, b.Cols[:2]...), b, api.ErrType}, {b, batch(b.Types, b.Cols[:2]...), api.ErrType}, {batch(b.Types[:2], b.Cols...), batch(b.Types[:2], b.Cols...), api.ErrType},
	} {
		if x, e := rowgroup.Concat(c.a, c.b); e != c.e || rowgroup.Valid(x) != (e == api.OK) {
			t.Errorf("Concat case %d: %d instead of %d", i, e, c.e)
		}
		checkConcat(t, c.a, c.b)
	}
	if x, e := rowgroup.Concat(one, half); e != api.OK || !same(x, batch(list(bools()), append(list(yes()), many(2048, no())...))) {
		t.Error("Concat:", e)
	}
}

// someIndices returns up to n indices of a list of length, and sometimes one that is none.
func someIndices(r interface{ IntN(int) int }, n, length int) []int {
	l := make([]int, r.IntN(n+1))
	for i := range l {
		l[i] = r.IntN(max(length, 1))
	}
	if len(l) > 0 && r.IntN(4) == 0 {
		l[r.IntN(len(l))] = list(-1, length, length+1, -length-1)[r.IntN(4)]
	}
	return l
}

func TestPartsFollowTheModel(t *testing.T) {
	r := newRand()
	eachSmallBatch(func(b api.Batch) {
		for range 4 {
			checkParts(t, b, someIndices(r, 40, len(b.Types)))
			checkParts(t, b, someIndices(r, 40, len(b.Cols[0])))
		}
		more := api.Batch{Types: b.Types}
		n := r.IntN(9)
		for _, typ := range b.Types {
			more.Cols = append(more.Cols, someColumn(r, typ, n))
		}
		checkConcat(t, b, more)
		checkConcat(t, b, someBatch(r, len(b.Types), n))
	})
}

// P1: batches that are far from valid stop no function.
func TestBatchesFarFromValid(t *testing.T) {
	odd := many(3, api.Value{K: math.MinInt, I: math.MinInt, S: string(make([]byte, 1000))})
	for _, b := range []api.Batch{
		{}, {Types: make([]api.Type, 40)}, {Cols: make([][]api.Value, 40)}, {Types: list(bools())}, {Types: many(100000, bools())}, {Cols: many(100000, odd)}, batch(list(bools()), odd), batch(list(strs(), strs()), nil, odd), batch(list(strs(), strs()), odd, nil), batch(list(api.Type{K: math.MaxInt, Scale: math.MinInt, Null: true}), odd),
	} {
		checkBatch(t, b)
		for _, indices := range [][]int{nil, {0}, {-1}, many(5000, 0)} {
			checkParts(t, b, indices)
		}
		checkConcat(t, b, small())
		checkConcat(t, small(), b)
		checkConcat(t, b, b)
		checkOf(t, b.Types, b.Cols)
	}
}

// withRoom returns a batch like b, whose slices have room behind them that is written, too, and all of that memory.
func withRoom(b api.Batch) (api.Batch, api.Batch) {
	all := copyOf(b)
	all.Types = append(all.Types, api.Type{K: 9})
	for i := range all.Cols {
		all.Cols[i] = append(all.Cols[i], str("room"))
	}
	all.Cols = append(all.Cols, list(str("room")))
	c := api.Batch{Types: all.Types[:len(b.Types)], Cols: slices.Clone(all.Cols)[:len(b.Cols)]}
	for i, l := range b.Cols {
		c.Cols[i] = c.Cols[i][:len(l)]
	}
	return c, all
}

// spoil overwrites a batch.
func spoil(b api.Batch) {
	for i := range b.Types {
		b.Types[i] = api.Type{K: 77}
	}
	for i, l := range b.Cols {
		for k := range l {
			l[k] = num(77)
		}
		_ = append(l, num(77))
		b.Cols[i] = nil
	}
	_ = append(b.Types, api.Type{K: 78})
}

// H7: what a call must not change is what its arguments refer to, the room behind them included; and what is done to a result changes neither an argument nor another part of the result.
func TestArgumentsStay(t *testing.T) {
	r := newRand()
	eachSmallBatch(func(b api.Batch) {
		c, all := withRoom(b)
		before := copyOf(all)
		cols, rows := []int{0, len(b.Types) - 1, 0}, []int{}
		if len(b.Cols[0]) > 0 {
			rows = list(0, len(b.Cols[0])-1, 0)
		}
		p, _ := rowgroup.Project(c, cols)
		s, _ := rowgroup.Select(c, rows)
		twice, _ := rowgroup.Concat(c, c)
		lines := rowgroup.Rows(c)
		again, _ := rowgroup.Of(c.Types, lines)
		form, _ := rowgroup.Encode(c)
		back, _, _ := rowgroup.Decode(form)
		for _, x := range []api.Batch{p, s, twice, again, back} {
			spoil(x)
		}
		if want, _ := modelRows(b); !slices.EqualFunc(lines, want, slices.Equal) {
			t.Errorf("Rows for %v changed to %v", b.Types, short(lines))
		}
		for _, row := range lines {
			clear(row)
			_ = append(row, null())
		}
		if !same(all, before) || !same(c, b) {
			t.Errorf("a batch of the types %v was changed", b.Types)
		}
		checkMemoryOfBytes(t, form, r.IntN(len(b.Types)))
	})
}

// checkMemoryOfBytes checks that reading changes nothing, and that appending to the bytes behind a row group does not.
func checkMemoryOfBytes(t *testing.T, form []byte, i int) {
	t.Helper()
	b := slices.Concat(form, bytes.Repeat([]byte{7}, 20))
	before := slices.Clone(b)
	for _, more := range []int{0, 3} {
		first, rest, _ := rowgroup.Decode(b[:len(form)+more])
		second, l, _ := rowgroup.Column(b[:len(form)+more], i)
		if second != first.Types[i] || !slices.Equal(l, first.Cols[i]) {
			t.Errorf("Column %d of %v: %v, %v", i, short(form), second, short(l))
		}
		_ = append(rest, 5)
		clear(l)
	}
	if !bytes.Equal(b, before) {
		t.Errorf("reading changed %v to %v", short(before), short(b))
	}
}

// A part of the result that is changed stays the only one that is.
func TestColumnsChosenTwice(t *testing.T) {
	b := small()
	p, _ := rowgroup.Project(b, list(0, 0))
	p.Cols[0][0] = null()
	if !slices.Equal(p.Cols[1], b.Cols[0]) || !same(b, small()) {
		t.Error("a column that was chosen twice is the same memory:", p, b)
	}
	s, _ := rowgroup.Select(b, list(0, 0))
	_ = append(s.Cols[0][:1], null())
	if s.Cols[1][1] != b.Cols[1][0] || !same(b, small()) {
		t.Error("rows that were chosen share memory:", s, b)
	}
	form, _ := rowgroup.Encode(b)
	got, _, _ := rowgroup.Decode(form)
	for i := range got.Cols {
		_ = append(got.Cols[i], num(5))
	}
	if !same(got, b) {
		t.Error("columns share memory:", got)
	}
}

// H1, H4: what column takes for a type, and how a chunk ends, is what the row group does.
func TestChunksOfColumns(t *testing.T) {
	eachSmallBatch(func(b api.Batch) {
		form, _ := rowgroup.Encode(b)
		p := modelPieces(form)
		for i, typ := range b.Types {
			want, e := column.Encode(typ, b.Cols[i])
			if e != api.OK || len(p.chunks) != len(b.Types) || !bytes.Equal(p.chunks[i], want) || p.types[i] != typ {
				t.Fatalf("the column %d of the row group %v for the types %v", i, short(form), b.Types)
			}
		}
	})
}

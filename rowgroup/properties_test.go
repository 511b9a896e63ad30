package rowgroup_test

import (
	"bytes"
	"slices"
	"testing"

	"chapman/api"
	"chapman/rowgroup"
)

func encoded(t *testing.T, b api.Batch) []byte {
	t.Helper()
	form, e := rowgroup.Encode(b)
	if e != api.OK {
		t.Fatalf("Encode for the types %v: %d", b.Types, e)
	}
	return form
}

// P8.2: the batch comes back, and so does what follows.
func TestBatchesComeBack(t *testing.T) {
	eachBatch(func(b api.Batch) {
		form := encoded(t, b)
		behinds := [][]byte{nil, {0}, {1, 1, 16}, {255}, {128, 128}, form[:min(len(form), 50)]}
		if len(form) > 400 {
			behinds = [][]byte{{0, 255}}
		}
		for _, rest := range behinds {
			got, behind, e := rowgroup.Decode(slices.Concat(form, rest))
			if !same(got, b) || !bytes.Equal(behind, rest) || e != api.OK || !rowgroup.Valid(got) {
				t.Fatalf("Decode of the row group for the types %v, with %v behind: %v, %v, %d", b.Types, rest, got.Types, short(behind), e)
			}
		}
	})
}

// P8.2: several row groups behind one another come back in order.
func TestGroupsBehindOneAnother(t *testing.T) {
	r := newRand()
	for range 300 {
		var batches []api.Batch
		var form []byte
		for range r.IntN(6) {
			b := someBatch(r, 1+r.IntN(4), r.IntN(9))
			batches, form = append(batches, b), append(form, encoded(t, b)...)
		}
		for i, b := range batches {
			got, rest, e := rowgroup.Decode(form)
			if !same(got, b) || e != api.OK {
				t.Fatalf("batch %d for the types %v: %v, %d", i, b.Types, got, e)
			}
			form = rest
		}
		if len(form) != 0 {
			t.Fatalf("%v behind the last row group", form)
		}
	}
}

// P8.2: Of and Rows are inverse.
func TestRowsComeBack(t *testing.T) {
	eachBatch(func(b api.Batch) {
		rows := rowgroup.Rows(b)
		got, e := rowgroup.Of(b.Types, rows)
		if !same(got, b) || e != api.OK || len(rows) != len(b.Cols[0]) {
			t.Fatalf("Of the %d rows of a batch for the types %v: %v, %d", len(rows), b.Types, got.Types, e)
		}
		if again := rowgroup.Rows(got); !slices.EqualFunc(again, rows, slices.Equal) {
			t.Fatalf("the rows %v for the types %v come back as %v", short(rows), b.Types, short(again))
		}
	})
}

// P8.3: what is accepted is the row group of the batch that is returned, and the rest.
func TestAcceptedBytesAreRowGroups(t *testing.T) {
	accepted, r := 0, newRand()
	check := func(form []byte) {
		b, rest, e := rowgroup.Decode(form)
		if e != api.OK {
			return
		}
		accepted++
		if again := encoded(t, b); !rowgroup.Valid(b) || !bytes.Equal(slices.Concat(again, rest), form) {
			t.Errorf("Decode(%v): a batch for the types %v, whose row group is %v, and %v", short(form), b.Types, short(again), short(rest))
		}
	}
	eachLonger([]byte{0, 1}, []byte{0, 2, 3, 6, 16, 32}, 6, check)
	eachLonger([]byte{1, 1, 16}, []byte{0, 1, 2, 4, 5}, 6, check)
	eachLonger([]byte{0, 2, 17, 4, 0, 0, 0, 0}, []byte{0, 2, 3, 6, 16, 48}, 6, check)
	eachSmallBatch(func(b api.Batch) {
		form := append(encoded(t, b), 3)
		check(form)
		for range 10 {
			changes(r, form, check)
		}
	})
	if accepted < 5000 {
		t.Errorf("only %d sequences were accepted", accepted)
	}
}

// P8.3: no two batches have the same row group.
func TestGroupsOfDifferentBatchesDiffer(t *testing.T) {
	groups := map[string]api.Batch{}
	check := func(b api.Batch) {
		form := string(encoded(t, b))
		if other, ok := groups[form]; ok && !same(b, other) {
			t.Errorf("%v and %v have the same row group", b, other)
		}
		groups[form] = b
	}
	for _, typ := range validTypes {
		for _, other := range validTypes {
			check(batch(list(typ), nil))
			check(batch(list(typ, other), nil, nil))
		}
	}
	eachLonger(nil, list(no(), yes()), 5, func(l []api.Value) {
		check(batch(list(bools()), l))
		check(batch(list(orNull(bools())), l))
		check(batch(list(bools(), bools()), l[:len(l)/2], l[len(l)-len(l)/2:]))
	})
	eachSmallBatch(check)
}

// P8.4: every proper beginning is ErrShort.
func TestBeginnings(t *testing.T) {
	eachBatch(func(b api.Batch) {
		form := encoded(t, b)
		ends := list(0, 1, 2, 3, 4, 5, len(form)-1, len(form)-2)
		for n := 0; n < len(form); n += 1 + len(form)/50 {
			ends = append(ends, n)
		}
		for _, n := range ends {
			if n < 0 || n >= len(form) {
				continue
			}
			if got, rest, e := rowgroup.Decode(form[:n]); !isZero(got) || rest != nil || e != api.ErrShort {
				t.Fatalf("Decode of %d of %d bytes of the row group for the types %v: %v, %v, %d", n, len(form), b.Types, got.Types, short(rest), e)
			}
		}
	})
}

// P8.5: each column is that of the batch.
func TestColumnsAreThoseOfBatches(t *testing.T) {
	eachBatch(func(b api.Batch) {
		form := encoded(t, b)
		all, _, _ := rowgroup.Decode(form)
		for i, want := range all.Types {
			typ, l, e := rowgroup.Column(form, i)
			if typ != want || !slices.Equal(l, all.Cols[i]) || !slices.Equal(l, b.Cols[i]) || e != api.OK {
				t.Fatalf("Column %d for the types %v: %v, %v, %d", i, b.Types, typ, short(l), e)
			}
		}
		if typ, l, e := rowgroup.Column(form, len(b.Types)); typ != (api.Type{}) || l != nil || e != api.ErrNone {
			t.Fatalf("Column %d for the types %v: %v, %v, %d", len(b.Types), b.Types, typ, short(l), e)
		}
	})
}

// P8.5: whatever the chunks of other columns contain.
func TestColumnsAmongOtherChunks(t *testing.T) {
	r := newRand()
	eachSmallBatch(func(b api.Batch) {
		i := r.IntN(len(b.Types))
		var parts [][]byte
		for k, typ := range b.Types {
			c := chunk(typ, b.Cols[k]...)
			for at := range c {
				if k != i {
					c[at] = byte(r.IntN(256))
				}
			}
			parts = append(parts, piece(typ, c))
		}
		typ, l, e := rowgroup.Column(group(len(b.Cols[0]), len(b.Types), parts...), i)
		if typ != b.Types[i] || !slices.Equal(l, b.Cols[i]) || e != api.OK {
			t.Errorf("Column %d for the types %v among other chunks: %v, %v, %d", i, b.Types, typ, short(l), e)
		}
	})
}

// P8.6: choosing rows and choosing columns can be exchanged.
func TestRowsAndColumnsAreExchanged(t *testing.T) {
	r := newRand()
	eachBatch(func(b api.Batch) {
		cols, rows := make([]int, 1+r.IntN(mostCols)), make([]int, r.IntN(30))
		for i := range cols {
			cols[i] = r.IntN(len(b.Types))
		}
		for i := range rows {
			rows[i] = r.IntN(max(1, len(b.Cols[0])))
		}
		if len(b.Cols[0]) == 0 {
			rows = nil
		}
		narrow, e := rowgroup.Project(b, cols)
		low, f := rowgroup.Select(b, rows)
		if e != api.OK || f != api.OK {
			t.Fatalf("for the types %v: Project %d, Select %d", b.Types, e, f)
		}
		x, e := rowgroup.Select(narrow, rows)
		y, f := rowgroup.Project(low, cols)
		if !same(x, y) || e != api.OK || f != api.OK {
			t.Fatalf("the rows %v and the columns %v for the types %v: %d, %d", rows, cols, b.Types, e, f)
		}
		for i, row := range rowgroup.Rows(y) {
			for k, v := range row {
				if v != b.Cols[cols[k]][rows[i]] {
					t.Fatalf("row %d, column %d of the rows %v and the columns %v for the types %v: %v", i, k, rows, cols, b.Types, v)
				}
			}
		}
	})
}

// P8.6: the rows of two batches, one after the other.
func TestRowsOfBatches(t *testing.T) {
	r := newRand()
	eachSmallBatch(func(a api.Batch) {
		b := api.Batch{Types: slices.Clone(a.Types)}
		n := r.IntN(20)
		for _, typ := range b.Types {
			b.Cols = append(b.Cols, someColumn(r, typ, n))
		}
		both, e := rowgroup.Concat(a, b)
		if want := slices.Concat(rowgroup.Rows(a), rowgroup.Rows(b)); e != api.OK || !slices.EqualFunc(rowgroup.Rows(both), want, slices.Equal) {
			t.Fatalf("Concat for the types %v: %d", a.Types, e)
		}
		first, second := make([]int, len(a.Cols[0])), make([]int, n)
		for i := range first {
			first[i] = i
		}
		for i := range second {
			second[i] = len(first) + i
		}
		x, _ := rowgroup.Select(both, first)
		y, _ := rowgroup.Select(both, second)
		if !same(x, a) || !same(y, b) {
			t.Fatalf("the rows %d and %d of Concat for the types %v", len(first), n, a.Types)
		}
	})
}

package rowgroup

import (
	"iter"
	"slices"

	"chapman/api"
	"chapman/bitpack"
	"chapman/column"
)

// The byte of a type is kindStep * K + scaleStep * Scale, and 1 more with Null.
const (
	kindStep  = 16
	scaleStep = 2
)

// Encode returns the row group of b: H3.
func Encode(b api.Batch) ([]byte, api.Errno) {
	if e := check(b); e != api.OK {
		return nil, e
	}
	group := append(code(rowsOf(b)), code(len(b.Types))...)
	for t, l := range columns(b) {
		// The columns of a valid batch have chunks: there is no error.
		chunk, _ := column.Encode(t, l)
		group = append(group, typeByte(t))
		group = append(group, code(len(chunk))...)
		group = append(group, chunk...)
	}
	return group, api.OK
}

// Decode returns the batch whose row group b begins with, and the bytes behind it: H4.
func Decode(b []byte) (api.Batch, []byte, api.Errno) {
	h, left, e := readHead(b)
	if e != api.OK {
		return api.Batch{}, nil, e
	}
	var batch api.Batch
	for s, e := range storedColumns(left, h.columns) {
		if e != api.OK {
			return api.Batch{}, nil, e
		}
		l, e := s.values(h.rows)
		if e != api.OK {
			return api.Batch{}, nil, e
		}
		batch.Types = append(batch.Types, s.typ)
		batch.Cols = append(batch.Cols, l)
		left = s.behind
	}
	// The bytes behind are clipped, so that appending to them writes nothing behind the argument.
	return batch, slices.Clip(left), api.OK
}

// Column returns the type and the values of the column i of the row group that b begins with: H5.
func Column(b []byte, i int) (api.Type, []api.Value, api.Errno) {
	h, left, e := readHead(b)
	if e != api.OK {
		return api.Type{}, nil, e
	}
	if i < 0 || i >= h.columns {
		return api.Type{}, nil, api.ErrNone
	}
	var last stored
	for s, e := range storedColumns(left, i+1) {
		if e != api.OK {
			return api.Type{}, nil, e
		}
		last = s
	}
	l, e := last.values(h.rows)
	if e != api.OK {
		return api.Type{}, nil, e
	}
	return last.typ, l, api.OK
}

// code returns the variable-length code of n. It is not put behind other bytes, because bitpack.Varint would copy all of them.
func code(n int) []byte {
	return bitpack.Varint(nil, uint64(n))
}

// typeByte returns the byte of a valid type.
func typeByte(t api.Type) byte {
	n := kindStep*t.K + scaleStep*t.Scale
	if t.Null {
		n++
	}
	return byte(n)
}

// typeOf returns the type with this byte; it is not valid if no valid one has it.
func typeOf(b byte) api.Type {
	n := int(b)
	return api.Type{K: n / kindStep, Scale: n % kindStep / scaleStep, Null: n%scaleStep != 0}
}

// head is what a row group begins with: how many rows and columns it has.
type head struct{ rows, columns int }

// readHead returns the head of the row group that b begins with, and the bytes behind it.
func readHead(b []byte) (head, []byte, api.Errno) {
	rows, b, e := readNumber(b, 0, api.MaxList)
	if e != api.OK {
		return head{}, nil, e
	}
	cols, b, e := readNumber(b, 1, maxTypes)
	if e != api.OK {
		return head{}, nil, e
	}
	return head{rows, cols}, b, api.OK
}

// readNumber returns the number whose variable-length code b begins with, which must be from lo to hi, and the bytes behind it.
func readNumber(b []byte, lo, hi uint64) (int, []byte, api.Errno) {
	n, b, e := bitpack.Read(b)
	if e != api.OK {
		return 0, nil, e
	}
	if n < lo || n > hi {
		return 0, nil, api.ErrForm
	}
	return int(n), b, api.OK
}

// stored is a column as a row group has it, and the bytes behind it.
type stored struct {
	typ           api.Type
	chunk, behind []byte
}

// storedColumns yields the first n columns that b begins with, one after the other; an error is yielded in place of the column that has it, and ends them.
func storedColumns(b []byte, n int) iter.Seq2[stored, api.Errno] {
	return func(yield func(stored, api.Errno) bool) {
		left := b
		for range n {
			s, e := readStored(left)
			if !yield(s, e) || e != api.OK {
				return
			}
			left = s.behind
		}
	}
}

// readStored returns the column that b begins with. It does not look into the chunk, so that those of other columns cost nothing and may be damaged.
func readStored(b []byte) (stored, api.Errno) {
	if len(b) == 0 {
		return stored{}, api.ErrShort
	}
	t := typeOf(b[0])
	// A type is valid if a list without values fits it.
	if !column.Fits(t, nil) {
		return stored{}, api.ErrForm
	}
	size, b, e := bitpack.Read(b[1:])
	if e != api.OK {
		return stored{}, e
	}
	if size > uint64(len(b)) {
		return stored{}, api.ErrShort
	}
	return stored{t, b[:size], b[size:]}, api.OK
}

// values returns the values of a column of a row group with so many rows.
func (s stored) values(rows int) ([]api.Value, api.Errno) {
	l, further, e := column.Decode(s.typ, s.chunk)
	// All bytes of the chunk are there: one that ends too early is not well-formed either.
	if e != api.OK || len(further) != 0 || len(l) != rows {
		return nil, api.ErrForm
	}
	return l, api.OK
}

package rowgroup_test

import (
	"bytes"
	"encoding/binary"
	"maps"
	"slices"

	"chapman/api"
	"chapman/column"
)

// The model has a table of the types, handles batches row by row, and cuts a row group into the pieces of its columns before it looks into any of them; it uses no code of the package, so that no mistake is made twice. Of the layers below it uses the chunks alone.

const (
	unit     = 1000000
	mostSum  = 4000000000000000000
	mostText = 40
	mostRows = 4096
	mostCols = 32
)

// typeBytes has the valid types by their bytes.
var typeBytes = map[byte]api.Type{
	16: {K: 1}, 17: {K: 1, Null: true}, 48: {K: 3}, 49: {K: 3, Null: true},
	32: {K: 2}, 34: {K: 2, Scale: 1}, 36: {K: 2, Scale: 2}, 38: {K: 2, Scale: 3}, 40: {K: 2, Scale: 4}, 42: {K: 2, Scale: 5}, 44: {K: 2, Scale: 6},
	33: {K: 2, Null: true}, 35: {K: 2, Scale: 1, Null: true}, 37: {K: 2, Scale: 2, Null: true}, 39: {K: 2, Scale: 3, Null: true}, 41: {K: 2, Scale: 4, Null: true}, 43: {K: 2, Scale: 5, Null: true}, 45: {K: 2, Scale: 6, Null: true},
}

// validTypes has the valid types in the order of their bytes.
var validTypes = func() []api.Type {
	var l []api.Type
	for _, x := range slices.Sorted(maps.Keys(typeBytes)) {
		l = append(l, typeBytes[x])
	}
	return l
}()

// byteOf returns the byte of a valid type.
func byteOf(typ api.Type) byte {
	return slices.Sorted(maps.Keys(typeBytes))[slices.Index(validTypes, typ)]
}

// modelTypes reports whether there are 1 to 32 valid types.
func modelTypes(types []api.Type) bool {
	for _, typ := range types {
		if !slices.Contains(validTypes, typ) {
			return false
		}
	}
	return len(types) >= 1 && len(types) <= mostCols
}

// modelOf returns what Of returns.
func modelOf(types []api.Type, rows [][]api.Value) (api.Batch, api.Errno) {
	proper := modelTypes(types)
	for _, row := range rows {
		proper = proper && len(row) == len(types)
	}
	for _, row := range rows {
		for i, v := range row {
			proper = proper && column.Fits(types[i], []api.Value{v})
		}
	}
	switch {
	case !proper:
		return api.Batch{}, api.ErrType
	case len(rows) > mostRows:
		return api.Batch{}, api.ErrBig
	}
	return batchOf(types, rows), api.OK
}

// batchOf appends the rows one at a time.
func batchOf(types []api.Type, rows [][]api.Value) api.Batch {
	b := api.Batch{Types: types, Cols: make([][]api.Value, len(types))}
	for _, row := range rows {
		for i, v := range row {
			b.Cols[i] = append(b.Cols[i], v)
		}
	}
	return b
}

// modelRows returns the rows of a valid batch, and whether b is one, or has too many rows alone.
func modelRows(b api.Batch) ([][]api.Value, api.Errno) {
	if len(b.Cols) != len(b.Types) || len(b.Cols) == 0 {
		return nil, api.ErrType
	}
	for _, l := range b.Cols {
		if len(l) != len(b.Cols[0]) {
			return nil, api.ErrType
		}
	}
	var rows [][]api.Value
	for i := range b.Cols[0] {
		var row []api.Value
		for _, l := range b.Cols {
			row = append(row, l[i])
		}
		rows = append(rows, row)
	}
	if _, e := modelOf(b.Types, rows); e != api.OK {
		return nil, e
	}
	return rows, api.OK
}

// part returns the elements with these indices, and whether all of them are indices.
func part[T any](l []T, indices []int) ([]T, bool) {
	var p []T
	for _, i := range indices {
		if i < 0 || i > len(l)-1 {
			return nil, false
		}
		p = append(p, l[i])
	}
	return p, true
}

func modelProject(b api.Batch, cols []int) (api.Batch, api.Errno) {
	rows, e := modelRows(b)
	types, ok := part(b.Types, cols)
	if e != api.OK || !ok || len(cols) < 1 || len(cols) > mostCols {
		return api.Batch{}, api.ErrArg
	}
	var narrow [][]api.Value
	for _, row := range rows {
		values, _ := part(row, cols)
		narrow = append(narrow, values)
	}
	return batchOf(types, narrow), api.OK
}

func modelSelect(b api.Batch, indices []int) (api.Batch, api.Errno) {
	rows, e := modelRows(b)
	chosen, ok := part(rows, indices)
	if e != api.OK || !ok || len(indices) > mostRows {
		return api.Batch{}, api.ErrArg
	}
	return batchOf(b.Types, chosen), api.OK
}

func modelConcat(a, b api.Batch) (api.Batch, api.Errno) {
	first, e := modelRows(a)
	second, f := modelRows(b)
	if e != api.OK || f != api.OK || !slices.Equal(a.Types, b.Types) {
		return api.Batch{}, api.ErrType
	}
	return modelOf(a.Types, slices.Concat(first, second))
}

// size returns the variable-length code of a number.
func size(n int) []byte { return binary.AppendUvarint(nil, uint64(n)) }

// group returns the head of a row group, and parts behind it.
func group(rows, cols int, parts ...[]byte) []byte {
	return slices.Concat(size(rows), size(cols), slices.Concat(parts...))
}

// piece returns what a row group has of a column with this chunk.
func piece(typ api.Type, chunk []byte) []byte {
	return slices.Concat([]byte{byteOf(typ)}, size(len(chunk)), chunk)
}

// chunk returns that of values that fit, and are at most 4096.
func chunk(typ api.Type, l ...api.Value) []byte {
	b, e := column.Encode(typ, l)
	if e != api.OK {
		panic("values have no chunk")
	}
	return b
}

func modelEncode(b api.Batch) ([]byte, api.Errno) {
	rows, e := modelRows(b)
	if e != api.OK {
		return nil, e
	}
	var parts [][]byte
	for i, typ := range b.Types {
		parts = append(parts, piece(typ, chunk(typ, b.Cols[i]...)))
	}
	return group(len(rows), len(b.Types), parts...), api.OK
}

// modelRead returns the number whose variable-length code b begins with, and the bytes behind it.
func modelRead(b []byte) (uint64, []byte, api.Errno) {
	n, used := binary.Uvarint(b)
	if used == 0 && len(b) < binary.MaxVarintLen64 {
		return 0, nil, api.ErrShort
	}
	if used <= 0 || !bytes.Equal(binary.AppendUvarint(nil, n), b[:used]) {
		return 0, nil, api.ErrForm
	}
	return n, b[used:], api.OK
}

// pieces is what can be read of a row group without looking into chunks: how many rows and columns it says that it has, the columns up to the first error, and the bytes behind them; bad is that error, or one of the two numbers.
type pieces struct {
	rows, cols uint64
	numbered   bool
	types      []api.Type
	chunks     [][]byte
	left       []byte
	bad        api.Errno
}

func modelPieces(b []byte) pieces {
	var p pieces
	if p.rows, p.left, p.bad = modelRead(b); p.bad != api.OK {
		return p
	}
	if p.rows > mostRows {
		p.bad = api.ErrForm
		return p
	}
	if p.cols, p.left, p.bad = modelRead(p.left); p.bad != api.OK {
		return p
	}
	if p.cols == 0 || p.cols > mostCols {
		p.bad = api.ErrForm
		return p
	}
	p.numbered = true
	for uint64(len(p.types)) < p.cols {
		if len(p.left) == 0 {
			p.bad = api.ErrShort
			return p
		}
		typ, ok := typeBytes[p.left[0]]
		if !ok {
			p.bad = api.ErrForm
			return p
		}
		n, left, e := modelRead(p.left[1:])
		if e == api.OK && n > uint64(len(left)) {
			e = api.ErrShort
		}
		if e != api.OK {
			p.bad = e
			return p
		}
		p.types, p.chunks, p.left = append(p.types, typ), append(p.chunks, left[:n]), left[n:]
	}
	return p
}

// modelValues returns the values of the column i, which has been read.
func (p pieces) modelValues(i int) ([]api.Value, api.Errno) {
	l, rest, e := column.Decode(p.types[i], p.chunks[i])
	if e != api.OK || len(rest) > 0 || uint64(len(l)) != p.rows {
		return nil, api.ErrForm
	}
	return l, api.OK
}

func modelDecode(b []byte) (api.Batch, []byte, api.Errno) {
	p := modelPieces(b)
	var cols [][]api.Value
	for i := range p.types {
		l, e := p.modelValues(i)
		if e != api.OK {
			return api.Batch{}, nil, e
		}
		cols = append(cols, l)
	}
	if p.bad != api.OK {
		return api.Batch{}, nil, p.bad
	}
	return api.Batch{Types: p.types, Cols: cols}, p.left, api.OK
}

func modelColumn(b []byte, i int) (api.Type, []api.Value, api.Errno) {
	p := modelPieces(b)
	switch {
	case !p.numbered:
		return api.Type{}, nil, p.bad
	case i < 0 || uint64(i) >= p.cols:
		return api.Type{}, nil, api.ErrNone
	case i >= len(p.types):
		return api.Type{}, nil, p.bad
	}
	l, e := p.modelValues(i)
	if e != api.OK {
		return api.Type{}, nil, e
	}
	return p.types[i], l, api.OK
}

package runs

import (
	"slices"

	"chapman/api"
	"chapman/bitpack"
)

const formCount = 4

// form is one way to store a list: as lists that are packed one behind the other.
type form struct {
	parts  func(l []int) [][]int                     // the lists that are packed for l
	unpack func(b []byte) ([]int, []byte, api.Errno) // the list whose form b begins with, and the bytes behind it
}

// forms returns each form at its number.
func forms() [formCount]form {
	whole := form{wholeList, bitpack.Unpack}
	byRuns := form{bothOfRuns, unpackRuns}
	return [formCount]form{whole, byRuns, whole.ofDifferences(), byRuns.ofDifferences()}
}

// ofDifferences returns the form that stores, in the form f, the differences of a list.
func (f form) ofDifferences() form {
	return form{
		parts: func(l []int) [][]int { return f.parts(Differences(l)) },
		unpack: func(b []byte) ([]int, []byte, api.Errno) {
			d, rest, e := f.unpack(b)
			return Sums(d), rest, e
		},
	}
}

// Kind returns the number of the form of l with the fewest bytes: D3.
func Kind(l []int) int {
	var sizes [formCount]int
	for number, f := range forms() {
		sizes[number] = size(f.parts(l))
	}
	return slices.Index(sizes[:], slices.Min(sizes[:]))
}

// Encode returns the encoding of l: D4.
func Encode(l []int) ([]byte, api.Errno) {
	if len(l) > api.MaxList {
		return nil, api.ErrBig
	}
	kind := Kind(l)
	b := []byte{byte(kind)}
	for _, part := range forms()[kind].parts(l) {
		packed, e := bitpack.Pack(part)
		if e != api.OK {
			return nil, e
		}
		b = append(b, packed...)
	}
	return b, api.OK
}

// Decode returns the list whose encoding b begins with, and the bytes behind it: D4.
func Decode(b []byte) ([]int, []byte, api.Errno) {
	if len(b) == 0 {
		return nil, nil, api.ErrShort
	}
	kind := int(b[0])
	if kind >= formCount {
		return nil, nil, api.ErrForm
	}
	l, rest, e := forms()[kind].unpack(b[1:])
	if e != api.OK {
		return nil, nil, e
	}
	// A list has each form, but is encoded in the one of its kind alone.
	if Kind(l) != kind {
		return nil, nil, api.ErrForm
	}
	return l, rest, api.OK
}

func wholeList(l []int) [][]int {
	return [][]int{l}
}

func bothOfRuns(l []int) [][]int {
	values, lengths := Runs(l)
	return [][]int{values, lengths}
}

// unpackRuns returns the list whose runs b begins with, and the bytes behind them.
func unpackRuns(b []byte) ([]int, []byte, api.Errno) {
	values, b, e := bitpack.Unpack(b)
	if e != api.OK {
		return nil, nil, e
	}
	lengths, b, e := bitpack.Unpack(b)
	if e != api.OK {
		return nil, nil, e
	}
	l, e := Expand(values, lengths)
	// Whatever is wrong with the runs, the bytes are no form then.
	if e != api.OK {
		return nil, nil, api.ErrForm
	}
	return l, b, api.OK
}

// size returns the number of bytes of the packed forms of all parts.
func size(parts [][]int) int {
	n := 0
	for _, part := range parts {
		n += bitpack.Size(part)
	}
	return n
}

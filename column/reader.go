package column

import (
	"chapman/api"
	"chapman/dictionary"
	"chapman/runs"
)

// reader reads the parts of a chunk, one after the other; left is what has not been read.
type reader struct{ left []byte }

// list reads all parts of a chunk for the valid type t, and returns its list. For parts that do not agree, as no chunk has them, it is a list with another chunk.
func (r *reader) list(t api.Type) ([]api.Value, api.Errno) {
	parts := [...]func() ([]api.Value, api.Errno){api.VBool: r.bools, api.VNum: r.numbers, api.VText: r.texts}
	if !t.Null {
		return parts[t.K]()
	}
	nulls, e := r.coded()
	if e != api.OK {
		return nil, e
	}
	values, e := parts[t.K]()
	if e != api.OK {
		return nil, e
	}
	return amongNulls(nulls, values), api.OK
}

// amongNulls returns the list that has these values, in order, where nulls has 0, and is null elsewhere.
func amongNulls(nulls []int, values []api.Value) []api.Value {
	l := make([]api.Value, len(nulls))
	for i, null := range nulls {
		if null == 0 && len(values) > 0 {
			l[i], values = values[0], values[1:]
		}
	}
	return l
}

func (r *reader) bools() ([]api.Value, api.Errno) {
	bools, e := r.coded()
	if e != api.OK {
		return nil, e
	}
	l := make([]api.Value, len(bools))
	for i, n := range bools {
		l[i] = api.Value{K: api.VBool, I: n}
	}
	return l, api.OK
}

func (r *reader) numbers() ([]api.Value, api.Errno) {
	exponent, e := r.byteUpTo(api.MaxScale)
	if e != api.OK {
		return nil, e
	}
	numbers, e := r.coded()
	if e != api.OK {
		return nil, e
	}
	factor := power(exponent)
	l := make([]api.Value, len(numbers))
	for i, n := range numbers {
		// A product beyond the 64-bit integers wraps around to a number that is encoded in another way.
		l[i] = api.Value{K: api.VNum, I: n * factor}
	}
	return l, api.OK
}

func (r *reader) texts() ([]api.Value, api.Errno) {
	kind, e := r.byteUpTo(byDictionary)
	if e != api.OK {
		return nil, e
	}
	forms := [...]func() ([]string, api.Errno){inFull: r.fullForm, byDictionary: r.dictionaryForm}
	texts, e := forms[kind]()
	if e != api.OK {
		return nil, e
	}
	l := make([]api.Value, len(texts))
	for i, s := range texts {
		l[i] = api.Value{K: api.VText, S: s}
	}
	return l, api.OK
}

// fullForm reads texts in the form 0, and dictionaryForm in the form 1.
func (r *reader) fullForm() ([]string, api.Errno) {
	lengths, e := r.coded()
	if e != api.OK {
		return nil, e
	}
	// All lengths are read before any of the bytes.
	for _, n := range lengths {
		if n < 0 || n > api.MaxText {
			return nil, api.ErrForm
		}
	}
	texts := make([]string, len(lengths))
	for i, n := range lengths {
		if n > len(r.left) {
			return nil, api.ErrShort
		}
		texts[i] = string(r.left[:n])
		r.left = r.left[n:]
	}
	return texts, api.OK
}

func (r *reader) dictionaryForm() ([]string, api.Errno) {
	d, left, e := dictionary.Unpack(r.left)
	if e != api.OK {
		return nil, e
	}
	r.left = left
	codes, e := r.coded()
	if e != api.OK {
		return nil, e
	}
	texts, e := dictionary.Strings(d, codes)
	if e != api.OK {
		return nil, api.ErrForm
	}
	return texts, api.OK
}

// coded reads a coded list.
func (r *reader) coded() ([]int, api.Errno) {
	l, left, e := runs.Decode(r.left)
	if e != api.OK {
		return nil, e
	}
	r.left = left
	return l, api.OK
}

// byteUpTo reads a byte that must not be greater than most.
func (r *reader) byteUpTo(most byte) (int, api.Errno) {
	if len(r.left) == 0 {
		return 0, api.ErrShort
	}
	x := r.left[0]
	if x > most {
		return 0, api.ErrForm
	}
	r.left = r.left[1:]
	return int(x), api.OK
}

package dictionary

import (
	"iter"

	"chapman/api"
	"chapman/bitpack"
)

// Pack returns the packed form of d: E3.
func Pack(d []string) ([]byte, api.Errno) {
	if !Valid(d) {
		return nil, api.ErrArg
	}
	b := bitpack.Varint(nil, uint64(len(d)))
	before := ""
	for _, s := range d {
		b = append(b, packString(before, s)...)
		before = s
	}
	return b, api.OK
}

// Unpack returns the dictionary whose packed form b begins with, and the bytes behind it: E4.
func Unpack(b []byte) ([]string, []byte, api.Errno) {
	n, b, e := bitpack.Read(b)
	if e != api.OK {
		return nil, nil, e
	}
	if n > api.MaxList {
		return nil, nil, api.ErrForm
	}
	d := make([]string, 0, n)
	for p, e := range parts(b, int(n)) {
		if e != api.OK {
			return nil, nil, e
		}
		s, ok := p.stringBehind(d)
		if !ok {
			return nil, nil, api.ErrForm
		}
		d = append(d, s)
		b = p.behind
	}
	return d, b, api.OK
}

// packString returns what the packed form has of s; it is new memory and not put behind what is packed already, because bitpack.Varint would copy all of that.
func packString(before, s string) []byte {
	shared := sharedBytes(before, s)
	b := bitpack.Varint(nil, uint64(shared))
	b = bitpack.Varint(b, uint64(len(s)-shared))
	return append(b, s[shared:]...)
}

// sharedBytes returns how many bytes at their beginning two strings share.
func sharedBytes(s, t string) int {
	n := 0
	for n < min(len(s), len(t)) && s[n] == t[n] {
		n++
	}
	return n
}

// part is what a packed form has of one string.
type part struct {
	shared int    // bytes that the string shares with the one before it
	other  []byte // its other bytes
	behind []byte // what follows in the packed form
}

// stringBehind returns the string of the part, and whether it can follow the strings d as this part.
func (p part) stringBehind(d []string) (string, bool) {
	// No string is before the first one: it need not be greater than anything, and may have no bytes.
	if len(d) == 0 {
		return string(p.other), true
	}
	before := d[len(d)-1]
	s := before[:p.shared] + string(p.other)
	return s, s > before && sharedBytes(before, s) == p.shared
}

// parts yields the parts of the n strings of a packed form, from behind its length on, or the error that ends them.
func parts(b []byte, n int) iter.Seq2[part, api.Errno] {
	return func(yield func(part, api.Errno) bool) {
		left, size := b, 0
		for range n {
			p, e := readPart(left, size)
			if !yield(p, e) || e != api.OK {
				return
			}
			left, size = p.behind, p.shared+len(p.other)
		}
	}
}

// readPart returns the part that b begins with, behind that of a string with so many bytes.
func readPart(b []byte, size int) (part, api.Errno) {
	shared, b, e := bitpack.Read(b)
	if e != api.OK {
		return part{}, e
	}
	other, b, e := bitpack.Read(b)
	if e != api.OK {
		return part{}, e
	}
	// Once shared is known to be small, the subtraction does not wrap around, as a sum of both numbers could.
	if shared > uint64(size) || other > maxBytes-shared {
		return part{}, api.ErrForm
	}
	if uint64(len(b)) < other {
		return part{}, api.ErrShort
	}
	return part{int(shared), b[:other], b[other:]}, api.OK
}

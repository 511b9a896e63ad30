package value

import (
	"slices"

	"chapman/api"
	"chapman/bitpack"
)

// Append returns b followed by the byte form of v: F4.
func Append(b []byte, v api.Value) []byte {
	return slices.Concat(b, byteForm(v))
}

// Read returns the wide value whose byte form b begins with, and the bytes behind it: F4.
func Read(b []byte) (api.Value, []byte, api.Errno) {
	if len(b) == 0 {
		return api.Value{}, nil, api.ErrShort
	}
	// The bytes behind are clipped, so that appending to them writes nothing behind the argument.
	switch kind, b := b[0], slices.Clip(b[1:]); kind {
	case api.VNull:
		return api.Value{}, b, api.OK
	case api.VBool:
		return readBool(b)
	case api.VNum:
		return readNumber(b)
	case api.VText:
		return readText(b)
	}
	return api.Value{}, nil, api.ErrForm
}

// AppendList returns b followed by the byte form of l: F5.
func AppendList(b []byte, l []api.Value) []byte {
	b = bitpack.Varint(b, uint64(len(l)))
	for _, v := range l {
		b = append(b, byteForm(v)...)
	}
	return b
}

// ReadList returns the list whose byte form b begins with, and the bytes behind it: F5.
func ReadList(b []byte) ([]api.Value, []byte, api.Errno) {
	n, b, e := bitpack.Read(b)
	if e != api.OK {
		return nil, nil, e
	}
	if n > api.MaxList {
		return nil, nil, api.ErrForm
	}
	var l []api.Value
	for range n {
		v, rest, e := Read(b)
		if e != api.OK {
			return nil, nil, e
		}
		l = append(l, v)
		b = rest
	}
	return l, b, api.OK
}

// byteForm returns the byte form of v; it is new memory and not put behind other bytes, because bitpack.Varint would copy all of them.
func byteForm(v api.Value) []byte {
	b := []byte{byte(v.K)}
	switch v.K {
	case api.VBool:
		return append(b, byte(v.I))
	case api.VNum:
		return bitpack.Varint(b, bitpack.Zigzag(v.I))
	case api.VText:
		return append(bitpack.Varint(b, uint64(len(v.S))), v.S...)
	}
	return b
}

// readBool returns the bool whose byte form b begins with behind the kind, and the bytes behind it; readNumber and readText do so for the other kinds.
func readBool(b []byte) (api.Value, []byte, api.Errno) {
	if len(b) == 0 {
		return api.Value{}, nil, api.ErrShort
	}
	v := boolean(int(b[0]))
	if !Valid(v) {
		return api.Value{}, nil, api.ErrForm
	}
	return v, b[1:], api.OK
}

func readNumber(b []byte) (api.Value, []byte, api.Errno) {
	u, b, e := bitpack.Read(b)
	if e != api.OK {
		return api.Value{}, nil, e
	}
	v := number(bitpack.Unzigzag(u))
	if !Wide(v) {
		return api.Value{}, nil, api.ErrForm
	}
	return v, b, api.OK
}

func readText(b []byte) (api.Value, []byte, api.Errno) {
	n, b, e := bitpack.Read(b)
	if e != api.OK {
		return api.Value{}, nil, e
	}
	if n > api.MaxText {
		return api.Value{}, nil, api.ErrForm
	}
	if uint64(len(b)) < n {
		return api.Value{}, nil, api.ErrShort
	}
	v := text(string(b[:n]))
	if !Valid(v) {
		return api.Value{}, nil, api.ErrForm
	}
	return v, b[n:], api.OK
}

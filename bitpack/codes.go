package bitpack

import (
	"slices"

	"chapman/api"
)

const (
	groupBits = 7
	more      = 1 << groupBits // the bit of a byte that says that a further group follows
	maxGroups = 10             // groups of 64 bits
	lastGroup = 1              // greatest tenth group, which has one of the 64 bits
)

// Zigzag returns the zigzag code of n: C1.
func Zigzag(n int) uint64 {
	// All bits of 2n flipped are -2n-1; the sign, shifted in from above, flips them for negative numbers alone.
	return uint64(n)<<1 ^ uint64(n>>63)
}

// Unzigzag returns the integer whose zigzag code is u: C1.
func Unzigzag(u uint64) int {
	return int(u>>1 ^ -(u & 1))
}

// Varint returns b followed by the variable-length code of u: C2.
func Varint(b []byte, u uint64) []byte {
	// Without room behind b, append takes new memory: it must not write to that behind the argument.
	b = slices.Clip(b)
	for u >= more {
		b = append(b, byte(u)|more)
		u >>= groupBits
	}
	return append(b, byte(u))
}

// Read returns the number whose variable-length code b begins with, and the bytes behind it: C2.
func Read(b []byte) (uint64, []byte, api.Errno) {
	var u uint64
	for i, x := range b[:min(len(b), maxGroups)] {
		u |= uint64(x&^more) << (groupBits * i)
		if x&more != 0 {
			continue
		}
		if !endsCode(i, x) {
			return 0, nil, api.ErrForm
		}
		return u, slices.Clip(b[i+1:]), api.OK
	}
	if len(b) < maxGroups {
		return 0, nil, api.ErrShort
	}
	return 0, nil, api.ErrForm
}

// endsCode reports whether a code can have x as its last byte, behind i others.
func endsCode(i int, x byte) bool {
	if i == maxGroups-1 {
		return x == lastGroup
	}
	return i == 0 || x != 0
}

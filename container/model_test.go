package container_test

import (
	"bytes"
	"encoding/binary"
	"slices"

	"chapman/api"
	"chapman/bitpack"
	"chapman/digest"
)

// The model writes a sealed form part by part, finds by numbers of bytes where the parts of one end, and splits a sequence by trying how many bytes are a sealed form; it uses no code of the package, so that no mistake is made twice. Of the layers below it uses the codes of numbers, and the digest of bytes.

const (
	lastKind = 9
	mostId   = 40
	mostData = 65536
)

// sealed returns bytes followed by their checksum.
func sealed(ahead []byte) []byte {
	return binary.LittleEndian.AppendUint64(slices.Clone(ahead), digest.Bytes(ahead))
}

func modelSeal(f api.File) ([]byte, api.Errno) {
	switch {
	case f.Kind < 1, f.Kind > lastKind, len(f.Id) > mostId:
		return nil, api.ErrArg
	case len(f.Data) > mostData:
		return nil, api.ErrBig
	}
	id, _ := bitpack.Pack(f.Id)
	b := append([]byte{67, 72, 77, byte(f.Kind)}, id...)
	b = binary.AppendUvarint(b, uint64(len(f.Data)))
	return sealed(append(b, f.Data...)), api.OK
}

// modelHead returns the kind and the identity of the file whose sealed form b begins with, how many bytes are ahead of its data, and how many are its data.
func modelHead(b []byte) (api.File, int, int, api.Errno) {
	if n := min(len(b), 3); string(b[:n]) != "CHM"[:n] {
		return api.File{}, 0, 0, api.ErrRot
	}
	if len(b) <= 3 {
		return api.File{}, 0, 0, api.ErrShort
	}
	if b[3] == 0 || b[3] > lastKind {
		return api.File{}, 0, 0, api.ErrRot
	}
	id, behindId, e := bitpack.Unpack(b[4:])
	if e == api.ErrForm || len(id) > mostId {
		return api.File{}, 0, 0, api.ErrRot
	}
	if e != api.OK {
		return api.File{}, 0, 0, e
	}
	size, behind, e := bitpack.Read(behindId)
	if e == api.ErrForm || size > mostData {
		return api.File{}, 0, 0, api.ErrRot
	}
	return api.File{Kind: int(b[3]), Id: id}, len(b) - len(behind), int(size), e
}

func modelOpen(b []byte) (api.File, api.Errno) {
	f, at, size, e := modelHead(b)
	switch {
	case e != api.OK:
		return api.File{}, e
	case len(b) < at+size+8:
		return api.File{}, api.ErrShort
	case len(b) > at+size+8:
		return api.File{}, api.ErrRot
	case !bytes.Equal(b, sealed(b[:at+size])):
		return api.File{}, api.ErrRot
	}
	f.Data = b[at : at+size]
	return f, api.OK
}

// modelSplit tries all numbers of bytes that a sealed form can have.
func modelSplit(b []byte) ([]api.File, []byte) {
	for n := range b {
		f, e := modelOpen(b[:n+1])
		if e == api.OK {
			l, rest := modelSplit(b[n+1:])
			return append([]api.File{f}, l...), rest
		}
	}
	return nil, b
}

// modelCmp finds the first number of the identities in which they differ; one that has none there is ahead.
func modelCmp(f, g api.File) int {
	a, b := append([]int{f.Kind}, f.Id...), append([]int{g.Kind}, g.Id...)
	for i := 0; i < len(a) || i < len(b); i++ {
		switch {
		case i >= len(a) || i < len(b) && a[i] < b[i]:
			return -1
		case i >= len(b) || a[i] > b[i]:
			return 1
		}
	}
	return 0
}

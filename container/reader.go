package container

import (
	"bytes"

	"chapman/api"
	"chapman/bitpack"
)

// failure is what a reader panics with where the bytes are no sealed form: the error of I2.
type failure api.Errno

// reader reads the parts of the sealed form that whole begins with, one after the other, into file; left is what has not been read.
type reader struct {
	whole, left []byte
	file        api.File
}

// first returns the file whose sealed form b begins with, and the bytes behind it.
func first(b []byte) (f api.File, behind []byte, e api.Errno) {
	defer func() {
		switch x := recover().(type) {
		case nil:
		case failure:
			e = api.Errno(x)
		default:
			// Nothing else panics; if it did, it would not be a file that was read.
			e = api.ErrRot
		}
	}()
	r := &reader{whole: b, left: b}
	for _, read := range [...]func(){r.letters, r.kind, r.id, r.data, r.checksum} {
		read()
	}
	return r.file, r.left, api.OK
}

// letters reads byte by byte, because another letter counts even if the bytes end behind it.
func (r *reader) letters() {
	for _, want := range []byte(letters) {
		require(r.take(1)[0] == want)
	}
}

func (r *reader) kind() {
	r.file.Kind = int(r.take(1)[0])
	require(isKind(r.file.Kind))
}

func (r *reader) id() {
	id, left, e := bitpack.Unpack(r.left)
	r.goOn(left, e)
	require(len(id) <= api.MaxId)
	r.file.Id = id
}

// data reads the length, and the contents behind it.
func (r *reader) data() {
	size, left, e := bitpack.Read(r.left)
	r.goOn(left, e)
	require(size <= api.MaxData)
	r.file.Data = bytes.Clone(r.take(int(size)))
}

func (r *reader) checksum() {
	ahead := r.whole[:len(r.whole)-len(r.left)]
	require(bytes.Equal(r.take(sumSize), checksum(ahead)))
}

// take reads n bytes.
func (r *reader) take(n int) []byte {
	if n > len(r.left) {
		panic(failure(api.ErrShort))
	}
	taken := r.left[:n]
	r.left = r.left[n:]
	return taken
}

// goOn goes on with the bytes behind a part that bitpack has read, unless it returned an error.
func (r *reader) goOn(left []byte, e api.Errno) {
	if e == api.ErrShort {
		panic(failure(e))
	}
	require(e == api.OK)
	r.left = left
}

// require gives up unless a part is as it must be.
func require(ok bool) {
	if !ok {
		panic(failure(api.ErrRot))
	}
}

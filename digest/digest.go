// Package digest is layer 1: digests of numbers, bytes and other digests, and their buckets; see shared/doc/01-digest.md.
package digest

import (
	"iter"
	"slices"

	"chapman/api"
)

// Each kind of thing starts from a seed of its own, the name of the kind in ASCII: so a list of digests is not mistaken for one of numbers.
const (
	seedNode  = 0x6e6f6465
	seedWords = 0x776f726473
	seedList  = 0x6c697374
	seedBytes = 0x6279746573
)

// Both factors are odd: so a multiplication can be undone, and a step loses nothing of a digest or of a word.
const (
	factorA = 0xd6e8feb86659fd93
	factorB = 0xa0761d6478bd642f
)

const (
	groupSize  = 8  // bytes of a word
	batchSize  = 64 // words that are taken at a time
	maxBuckets = 1000000
)

// chain is a digest in the making.
type chain struct{ h uint64 }

// take goes on by a step for each word.
func (c *chain) take(words ...uint64) {
	for _, w := range words {
		c.h = Step(c.h, w)
	}
}

// Step returns the digest that a step with the word w makes of the digest h: A1.
func Step(h, w uint64) uint64 {
	a := (h ^ w) * factorA
	b := a ^ a>>32
	return b * factorB
}

// Join returns the digest of a pair of digests: A1.
func Join(a, b uint64) uint64 {
	c := chain{seedNode}
	c.take(a, b)
	return c.h
}

// Words returns the digest of a list of numbers: A2.
func Words(l []int) uint64 {
	return counted(seedWords, numbers(l), len(l))
}

// List returns the digest of a list of digests: A2.
func List(l []uint64) uint64 {
	return counted(seedList, slices.Values(l), len(l))
}

// Bytes returns the digest of a byte sequence: A3.
func Bytes(b []byte) uint64 {
	return counted(seedBytes, groups(b), len(b))
}

// Bucket returns which of n buckets the digest d belongs to: A4.
func Bucket(d uint64, n int) (int, api.Errno) {
	if n < 1 || n > maxBuckets {
		return 0, api.ErrArg
	}
	return int((d >> 32) % uint64(n)), api.OK
}

// counted returns the digest that the words lead to from a seed on. The step for the length n comes last: so the zero bytes that fill up a group still tell.
func counted(seed uint64, words iter.Seq[uint64], n int) uint64 {
	c := chain{seed}
	inBatches(words, c.take)
	c.take(uint64(n))
	return c.h
}

// inBatches has take take all words, many at a time, because each call of a function value needs memory for its arguments.
func inBatches(words iter.Seq[uint64], take func(words ...uint64)) {
	batch := make([]uint64, 0, batchSize)
	for w := range words {
		batch = append(batch, w)
		if len(batch) == batchSize {
			take(batch...)
			batch = batch[:0]
		}
	}
	take(batch...)
}

// numbers yields each number as a word.
func numbers(l []int) iter.Seq[uint64] {
	return func(yield func(uint64) bool) {
		for _, n := range l {
			if !yield(uint64(n)) {
				return
			}
		}
	}
}

// groups yields each group of bytes as a word.
func groups(b []byte) iter.Seq[uint64] {
	return func(yield func(uint64) bool) {
		for group := range slices.Chunk(b, groupSize) {
			if !yield(word(group)) {
				return
			}
		}
	}
}

// word returns the word of a group. The first byte is the lowest one; what a short group lacks stays zero.
func word(group []byte) uint64 {
	var w uint64
	for i, x := range group {
		w |= uint64(x) << (8 * i)
	}
	return w
}

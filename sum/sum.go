// Package sum is layer 1: hashes of bytes, and roots of rows of hashes.
package sum

import (
	"math/bits"

	"moidore/api"
)

// What stands ahead of the bytes that a root is the hash of: no row is taken for another one's part.
const (
	markNone = 0
	markOne  = 1
	markMore = 2
)

// Of is the hash of the parts put together, one behind the other.
func Of(parts ...[]byte) api.Hash {
	w := begin()
	for _, p := range parts {
		w.put(p)
	}
	return w.end()
}

// Root is the root of a row of hashes.
func Root(l ...api.Hash) api.Hash {
	switch len(l) {
	case 0:
		return Of([]byte{markNone})
	case 1:
		return Of([]byte{markOne}, l[0][:])
	}
	n := powerBelow(len(l))
	first, others := Root(l[:n]...), Root(l[n:]...)
	return Of([]byte{markMore}, first[:], others[:])
}

// powerBelow is the greatest power of two below n, which is 2 or more.
func powerBelow(n int) int {
	return 1 << (bits.Len(uint(n-1)) - 1)
}

package sum

import (
	"math/bits"

	"moidore/api"
)

// eight is a hash's numbers.
type eight [8]uint32

// start is the first bits of the square roots of the first eight primes.
var start = eight{
	0x6a09e667, 0xbb67ae85, 0x3c6ef372, 0xa54ff53a, 0x510e527f, 0x9b05688c, 0x1f83d9ab, 0x5be0cd19,
}

// cubes is the first bits of the cube roots of the first 64 primes.
var cubes = [64]uint32{
	0x428a2f98, 0x71374491, 0xb5c0fbcf, 0xe9b5dba5, 0x3956c25b, 0x59f111f1, 0x923f82a4, 0xab1c5ed5,
	0xd807aa98, 0x12835b01, 0x243185be, 0x550c7dc3, 0x72be5d74, 0x80deb1fe, 0x9bdc06a7, 0xc19bf174,
	0xe49b69c1, 0xefbe4786, 0x0fc19dc6, 0x240ca1cc, 0x2de92c6f, 0x4a7484aa, 0x5cb0a9dc, 0x76f988da,
	0x983e5152, 0xa831c66d, 0xb00327c8, 0xbf597fc7, 0xc6e00bf3, 0xd5a79147, 0x06ca6351, 0x14292967,
	0x27b70a85, 0x2e1b2138, 0x4d2c6dfc, 0x53380d13, 0x650a7354, 0x766a0abb, 0x81c2c92e, 0x92722c85,
	0xa2bfe8a1, 0xa81a664b, 0xc24b8b70, 0xc76c51a3, 0xd192e819, 0xd6990624, 0xf40e3585, 0x106aa070,
	0x19a4c116, 0x1e376c08, 0x2748774c, 0x34b0bcb5, 0x391c0cb3, 0x4ed8aa4a, 0x5b9cca4f, 0x682e6ff3,
	0x748f82ee, 0x78a5636f, 0x84c87814, 0x8cc70208, 0x90befffa, 0xa4506ceb, 0xbef9a3f7, 0xc67178f2,
}

// mix adds to the numbers what a row of bytes makes of them.
func (n *eight) mix(row [rowBytes]byte) {
	wide := spread(row)
	a, b, c, d, e, f, g, h := n[0], n[1], n[2], n[3], n[4], n[5], n[6], n[7]
	for i := range wide {
		t1 := h + (turned(e, 6) ^ turned(e, 11) ^ turned(e, 25)) + (e&f ^ ^e&g) + cubes[i] + wide[i]
		t2 := (turned(a, 2) ^ turned(a, 13) ^ turned(a, 22)) + (a&b ^ a&c ^ b&c)
		h, g, f = g, f, e
		e = d + t1
		d, c, b = c, b, a
		a = t1 + t2
	}
	for i, x := range [8]uint32{a, b, c, d, e, f, g, h} {
		n[i] += x
	}
}

// spread makes 64 numbers of a row of bytes.
func spread(row [rowBytes]byte) [64]uint32 {
	var wide [64]uint32
	for i := range 16 {
		wide[i] = uint32(row[4*i])<<24 | uint32(row[4*i+1])<<16 | uint32(row[4*i+2])<<8 | uint32(row[4*i+3])
	}
	for i := 16; i < len(wide); i++ {
		x, y := wide[i-15], wide[i-2]
		s0 := turned(x, 7) ^ turned(x, 18) ^ x>>3
		s1 := turned(y, 17) ^ turned(y, 19) ^ y>>10
		wide[i] = wide[i-16] + s0 + wide[i-7] + s1
	}
	return wide
}

// turned is x, its bits so many places to the right.
func turned(x uint32, places int) uint32 { return bits.RotateLeft32(x, -places) }

// bytes is the numbers as a hash.
func (n *eight) bytes() api.Hash {
	var h api.Hash
	for i, x := range n {
		h[4*i], h[4*i+1], h[4*i+2], h[4*i+3] = byte(x>>24), byte(x>>16), byte(x>>8), byte(x)
	}
	return h
}

package wots

import (
	"bytes"
	"encoding/hex"
	"math/rand"
	"slices"
	"testing"

	"moidore/api"
	"moidore/sum"
)

// plainChain is the chain i of a seed in the chapter's words: all its 16 hashes.
func plainChain(seed []byte, i int) []api.Hash {
	l := []api.Hash{sum.Of(append(bytes.Clone(seed), byte(i)))}
	for k := 1; k <= 15; k++ {
		ahead := l[k-1]
		l = append(l, sum.Of([]byte{byte(i), byte(k)}, ahead[:]))
	}
	return l
}

// plainDigits is the digits of a message in the chapter's words.
func plainDigits(message api.Hash) []int {
	var l []int
	for _, b := range message[:16] {
		l = append(l, int(b)/16, int(b)%16)
	}
	all := 0
	for _, x := range l {
		all += 15 - x
	}
	return append(l, all/256, all/16%16, all%16)
}

// plainOwner is the hash of ends, one behind the other.
func plainOwner(ends []api.Hash) api.Hash {
	var b []byte
	for _, h := range ends {
		b = append(b, h[:]...)
	}
	return sum.Of(b)
}

// plainKey is the owner of a seed.
func plainKey(seed []byte) api.Hash {
	var l []api.Hash
	for i := range 35 {
		l = append(l, plainChain(seed, i)[15])
	}
	return plainOwner(l)
}

// plainSign is the hashes of a signature.
func plainSign(seed []byte, message api.Hash) []api.Hash {
	var l []api.Hash
	for i, x := range plainDigits(message) {
		l = append(l, plainChain(seed, i)[x])
	}
	return l
}

// plainSigner is the owner of a signature that has as many hashes as it must.
func plainSigner(chains []api.Hash, message api.Hash) api.Hash {
	var l []api.Hash
	for i, x := range plainDigits(message) {
		h := chains[i]
		for k := x + 1; k <= 15; k++ {
			h = sum.Of(slices.Concat([]byte{byte(i), byte(k)}, h[:]))
		}
		l = append(l, h)
	}
	return plainOwner(l)
}

// text is a hash as it is written.
func text(h api.Hash) string { return hex.EncodeToString(h[:]) }

// hashOf is the hash that is so written.
func hashOf(s string) api.Hash {
	var h api.Hash
	if n, err := hex.Decode(h[:], []byte(s)); n != len(h) || err != nil {
		panic("no hash: " + s)
	}
	return h
}

// of is a message: these bytes, and noughts.
func of(b ...byte) api.Hash {
	var h api.Hash
	copy(h[:], b)
	return h
}

// full is a message of one byte, 32 times.
func full(b byte) api.Hash { return of(bytes.Repeat([]byte{b}, 32)...) }

// rising is n bytes, one above the other.
func rising(n int) []byte {
	b := make([]byte, n)
	for i := range b {
		b[i] = byte(i % 251)
	}
	return b
}

// eachOnce are messages whose first bytes have each digit once, by bytes and by halves of them.
func eachOnce() []api.Hash {
	return []api.Hash{
		hashOf("00112233445566778899aabbccddeeff00000000000000000000000000000000"),
		hashOf("ffeeddccbbaa99887766554433221100ffffffffffffffffffffffffffffffff"),
		hashOf("0123456789abcdeffedcba987654321000000000000000000000000000000000"),
		hashOf("0f1e2d3c4b5a69788796a5b4c3d2e1f000112233445566778899aabbccddeeff"),
	}
}

// turned is h with one bit turned.
func turned(h api.Hash, bit int) api.Hash {
	h[bit/8] ^= 1 << (bit % 8)
	return h
}

// anyBytes is n bytes by chance.
func anyBytes(r *rand.Rand, n int) []byte {
	b := make([]byte, n)
	r.Read(b)
	return b
}

// anyHash is a hash by chance; often one of few digits.
func anyHash(r *rand.Rand) api.Hash {
	h := of(anyBytes(r, 32)...)
	if r.Intn(3) == 0 {
		for i := range h {
			h[i] = []byte{0, 1, 0x10, 0x11, 0xee, 0xef, 0xfe, 0xff}[r.Intn(8)]
		}
	}
	return h
}

// anySeed is a seed by chance, most of 32 bytes.
func anySeed(r *rand.Rand) []byte {
	if r.Intn(2) == 0 {
		return anyBytes(r, 32)
	}
	return anyBytes(r, r.Intn(150))
}

// wantKey asks Key for the owner of a seed.
func wantKey(t *testing.T, what string, seed []byte, want api.Hash) {
	t.Helper()
	if got := Key(seed); got != want {
		t.Errorf("Key, %s: %s, not %s", what, text(got), text(want))
	}
}

// wantSign asks Sign for hashes.
func wantSign(t *testing.T, what string, seed []byte, message api.Hash, want []api.Hash) {
	t.Helper()
	got := Sign(seed, message).Chains
	if len(got) != 35 {
		t.Fatalf("Sign, %s: %d hashes", what, len(got))
	}
	for i := range got {
		if got[i] != want[i] {
			t.Errorf("Sign, %s: chain %d: %s, not %s", what, i, text(got[i]), text(want[i]))
		}
	}
}

// wantOwner asks Owner for an owner, and true.
func wantOwner(t *testing.T, what string, chains []api.Hash, message, want api.Hash) {
	t.Helper()
	if got, is := Owner(api.Signature{Chains: chains}, message); got != want || !is {
		t.Errorf("Owner, %s: %s, %v, not %s", what, text(got), is, text(want))
	}
}

// wantNone asks Owner for none.
func wantNone(t *testing.T, what string, chains []api.Hash, message api.Hash) {
	t.Helper()
	if got, is := Owner(api.Signature{Chains: chains}, message); got != (api.Hash{}) || is {
		t.Errorf("Owner, %s: %s, %v", what, text(got), is)
	}
}

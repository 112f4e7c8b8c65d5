package wots

import (
	"math/rand"
	"slices"
	"strconv"
	"testing"

	"moidore/api"
)

// P6.2: what was signed.
func TestOwnerOfSigned(t *testing.T) {
	for name, seed := range seeds() {
		if len(seed) > 1000 {
			continue
		}
		for _, m := range messages() {
			wantOwner(t, name, plainSign(seed, m), m, plainKey(seed))
		}
	}
}

// P6.2: of another message than was signed the owner is another one, but not where just its last 16 bytes differ.
func TestOwnerOfAnother(t *testing.T) {
	seed := rising(32)
	key, m := plainKey(seed), of(rising(32)...)
	l := plainSign(seed, m)
	for bit := range 256 {
		other := turned(m, bit)
		wantOwner(t, "bit "+strconv.Itoa(bit), l, other, plainSigner(l, other))
		if got, _ := Owner(api.Signature{Chains: l}, other); (got == key) != (bit >= 128) {
			t.Errorf("bit %d: the same owner: %v", bit, got == key)
		}
	}
	for _, other := range messages() {
		wantOwner(t, "another message", l, other, plainSigner(l, other))
	}
}

// P6.2: just as many hashes as there are chains.
func TestOwnerOfOthersMany(t *testing.T) {
	seed := rising(32)
	for _, m := range messages() {
		l := plainSign(seed, m)
		for n := range 35 {
			wantNone(t, strconv.Itoa(n)+" hashes", l[:n], m)
			wantNone(t, strconv.Itoa(n)+" last hashes", l[35-n:], m)
		}
		wantOwner(t, "35 hashes", l, m, plainKey(seed))
		for n := 1; n < 40; n++ {
			wantNone(t, strconv.Itoa(35+n)+" hashes", slices.Concat(l, make([]api.Hash, n)), m)
		}
		wantNone(t, "twice the hashes", slices.Concat(l, l), m)
		wantNone(t, "one ahead", slices.Concat([]api.Hash{{}}, l), m)
		wantNone(t, "nil", nil, m)
		wantNone(t, "none", []api.Hash{}, m)
	}
	for _, n := range []int{255, 256, 291, 1 << 16, 1<<16 + 35} {
		wantNone(t, strconv.Itoa(n)+" hashes", make([]api.Hash, n), full(0))
	}
}

// P6.2: one bit of one hash, of each chain.
func TestOwnerOfTurned(t *testing.T) {
	seed := rising(32)
	key := plainKey(seed)
	for n, m := range messages() {
		l := plainSign(seed, m)
		for i := range l {
			for bit := n % 7; bit < 256; bit += 37 {
				other := slices.Clone(l)
				other[i] = turned(l[i], bit)
				wantOwner(t, "a bit turned", other, m, plainSigner(other, m))
				if got, _ := Owner(api.Signature{Chains: other}, m); got == key {
					t.Errorf("chain %d, bit %d: the same owner", i, bit)
				}
			}
		}
	}
}

// P6.2: hashes stand for their own chains, at their own places.
func TestOwnerOfMoved(t *testing.T) {
	seed := rising(32)
	key := plainKey(seed)
	for _, m := range messages() {
		l := plainSign(seed, m)
		for i := range 34 {
			other := slices.Clone(l)
			other[i], other[i+1] = l[i+1], l[i]
			wantOwner(t, "two in other places", other, m, plainSigner(other, m))
			if got, _ := Owner(api.Signature{Chains: other}, m); got == key {
				t.Errorf("chains %d and the next: the same owner", i)
			}
		}
		for i, x := range plainDigits(m) {
			if x < 15 {
				other := slices.Clone(l)
				other[i] = plainChain(seed, i)[x+1]
				wantOwner(t, "one too far on", other, m, plainSigner(other, m))
				if got, _ := Owner(api.Signature{Chains: other}, m); got == key {
					t.Errorf("chain %d, one too far on: the same owner", i)
				}
			}
		}
	}
}

// P6.2: hashes that nobody signed have an owner too.
func TestOwnerOfNobody(t *testing.T) {
	r := rand.New(rand.NewSource(63))
	for range 500 {
		l := make([]api.Hash, 35)
		for i := range l {
			l[i] = anyHash(r)
		}
		m := anyHash(r)
		wantOwner(t, "by chance", l, m, plainSigner(l, m))
	}
	for _, m := range messages() {
		for _, h := range []api.Hash{full(0), full(0xff)} {
			l := slices.Repeat([]api.Hash{h}, 35)
			wantOwner(t, "one hash", l, m, plainSigner(l, m))
		}
	}
}

// P6.3: the owner of what Sign tells is the Key of its seed; of a seed with one bit turned it isn't.
func TestOwnerIsKey(t *testing.T) {
	r := rand.New(rand.NewSource(64))
	for range 400 {
		seed, m := anySeed(r), anyHash(r)
		key := Key(seed)
		s := Sign(seed, m)
		wantOwner(t, "by chance", s.Chains, m, key)
		if len(seed) == 0 {
			continue
		}
		bit := r.Intn(8 * len(seed))
		seed[bit/8] ^= 1 << (bit % 8)
		if got, is := Owner(Sign(seed, m), m); got == key || !is || got != Key(seed) {
			t.Errorf("bit %d of a seed of %d bytes turned: %s, %v", bit, len(seed), text(got), is)
		}
	}
	seed := rising(32)
	key := Key(seed)
	for bit := range 256 {
		other := turned(api.Hash(seed), bit)
		if Key(other[:]) == key {
			t.Errorf("bit %d of the seed plays no part", bit)
		}
	}
}

// P6.3: of two messages whose digits differ, some digit of each is below the other's.
func TestNoneAbove(t *testing.T) {
	r := rand.New(rand.NewSource(65))
	for range 20000 {
		a, b := anyHash(r), anyHash(r)
		if r.Intn(2) == 0 {
			b = turned(turned(a, r.Intn(256)), r.Intn(256))
		}
		l, m := digits(a), digits(b)
		below, above := 0, 0
		for i := range l {
			if l[i] < m[i] {
				below++
			}
			if l[i] > m[i] {
				above++
			}
		}
		if l != m && (below == 0 || above == 0) {
			t.Fatalf("%s and %s: %d below, %d above", text(a), text(b), below, above)
		}
	}
}

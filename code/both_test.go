package code

import (
	"bytes"
	"math/rand"
	"testing"

	"moidore/api"
	"moidore/sum"
	"moidore/wire"
)

// P8.3: what is put is got, several programs one behind the other; bytes of which a program is got are those that are put of it.
func TestBoth(t *testing.T) {
	r := rand.New(rand.NewSource(803))
	for range 4000 {
		l := make([]api.Program, r.Intn(4))
		w := wire.NewWriter()
		for i := range l {
			l[i] = anyProgram(r)
			Put(w, l[i])
		}
		b, e := w.Bytes()
		if e != api.OK {
			t.Fatalf("%d of %s", e, short(told(l)))
		}
		x, again := wire.NewReader(b), wire.NewWriter()
		for i := range l {
			got := Get(x)
			if !same(got, l[i]) {
				t.Fatalf("%s, not %s", short(told(got)), short(told(l[i])))
			}
			Put(again, got)
		}
		c, e := again.Bytes()
		if !x.End() || !bytes.Equal(b, c) || e != api.OK {
			t.Fatalf("%x, not %x", c, b)
		}
	}
}

// P8.3: two programs that are not the same have other bytes, none of which begin with the other one's, and other hashes.
func TestOneWay(t *testing.T) {
	seen := map[string][]byte{}
	add := func(p api.Program) {
		b, _ := bytesOf(p)
		seen[told(p)] = b
	}
	for _, p := range rights() {
		add(p)
	}
	r := rand.New(rand.NewSource(804))
	for range 500 {
		add(anyProgram(r))
	}
	hashes := map[api.Hash]bool{}
	for a, b := range seen {
		hashes[sum.Of(b)] = true
		for c, d := range seen {
			if a != c && bytes.HasPrefix(b, d) {
				t.Errorf("%s and %s", short(a), short(c))
			}
		}
	}
	if len(hashes) != len(seen) {
		t.Errorf("%d hashes of %d programs", len(hashes), len(seen))
	}
}

// P8.3: any programs have the bytes and the hash that the chapter says; so has what is got of them.
func TestAny(t *testing.T) {
	r := rand.New(rand.NewSource(805))
	for range 4000 {
		p := anyProgram(r)
		want := plainBytes(p)
		b, e := bytesOf(p)
		if !Right(p) || !bytes.Equal(b, want) || e != api.OK {
			t.Fatalf("%s: %x, %d, not %x", short(told(p)), b, e, want)
		}
		h, is := Hash(Get(wire.NewReader(b)))
		if h != sum.Of(want) || !is {
			t.Fatalf("%s: %x, %t", short(told(p)), h, is)
		}
	}
}

package tx

import (
	"bytes"
	"math/rand"
	"testing"

	"moidore/api"
	"moidore/sum"
	"moidore/wire"
)

// P11.3: what is put is got, whole, and several transactions one behind the other; bytes of which one is got are those that are put of it.
func TestBoth(t *testing.T) {
	t.Parallel()
	r := rand.New(rand.NewSource(1103))
	for range 800 {
		l := make([]api.Tx, r.Intn(4))
		w := wire.NewWriter()
		for i := range l {
			l[i] = anyTx(r)
			PutTx(w, l[i])
			b, is := Put(l[i])
			if x, got := Get(b); !is || !got || !same(x, l[i]) {
				t.Fatalf("%s, %t, %t, not %s", short(x), is, got, short(l[i]))
			}
		}
		b, e := w.Bytes()
		if e != api.OK {
			t.Fatalf("%d of %s", e, short(l))
		}
		x, again := wire.NewReader(b), wire.NewWriter()
		for i := range l {
			got := GetTx(x)
			if !same(got, l[i]) {
				t.Fatalf("%s, not %s", short(got), short(l[i]))
			}
			PutTx(again, got)
		}
		c, e := again.Bytes()
		if !x.End() || !bytes.Equal(b, c) || e != api.OK {
			t.Fatalf("%x, not %x", c, b)
		}
	}
}

// P11.1, P11.2: any right transactions have the bytes, the id and the data's hash that the chapter says.
func TestAny(t *testing.T) {
	t.Parallel()
	r := rand.New(rand.NewSource(1104))
	for range 1000 {
		x := anyTx(r)
		wantAsked(t, "any one", x, true, true, true)
		if b, is := Put(x); !bytes.Equal(b, txBytes(x)) || !is {
			t.Fatalf("%s: %x, %t", short(x), b, is)
		}
	}
}

// P11.3: of transactions that are not the same the bytes of none begin with another one's.
func TestOneWay(t *testing.T) {
	t.Parallel()
	seen := map[string][]byte{}
	for _, x := range rightBends() {
		if y := x.bent(); x.part != inAll {
			seen[told(y)] = txBytes(y)
		}
	}
	r := rand.New(rand.NewSource(1105))
	for range 200 {
		x := anyTx(r)
		b, _ := Put(x)
		seen[told(x)] = b
	}
	for a, b := range seen {
		for c, d := range seen {
			if a != c && bytes.HasPrefix(b, d) {
				t.Errorf("%.400s and %.400s", a, c)
			}
		}
	}
}

// hashes is a right transaction's id and its data's hash.
func hashes(t *testing.T, x api.Tx) (id, data api.Hash) {
	t.Helper()
	id, isId := Id(x.Body)
	data, isData := Data(x)
	if !isId || !isData || id == sum.Of() || id == data {
		t.Errorf("%s: %t, %t", short(x), isId, isData)
	}
	return id, data
}

// P11.3: other Signatures, and another flag, change neither the id nor the data's hash; another body changes the id alone, other data the data's hash alone.
func TestHangsOn(t *testing.T) {
	t.Parallel()
	id, data := hashes(t, full())
	for _, x := range rightBends() {
		y := x.bent()
		if x.part == inAll {
			continue
		}
		otherId, otherData := hashes(t, y)
		if (otherId != id) != !same(y.Body, full().Body) {
			t.Errorf("%s: another id", x.name)
		}
		y.Body, y.Signatures, y.Valid = full().Body, full().Signatures, true
		if (otherData != data) != !same(y, full()) {
			t.Errorf("%s: another hash of the data", x.name)
		}
	}
}

// P11.3: the same of any transactions, whose parts are put together anew.
func TestHangsOnAny(t *testing.T) {
	t.Parallel()
	r := rand.New(rand.NewSource(1106))
	for range 500 {
		x, y := anyTx(r), anyTx(r)
		id, data := hashes(t, x)
		z := y
		z.Body = x.Body
		if other, _ := hashes(t, z); other != id {
			t.Errorf("%s: another id", short(z))
		}
		z = x
		z.Body, z.Signatures, z.Valid = y.Body, y.Signatures, y.Valid
		if _, other := hashes(t, z); other != data {
			t.Errorf("%s: another hash of the data", short(z))
		}
	}
}

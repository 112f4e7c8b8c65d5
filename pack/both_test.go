package pack

import (
	"bytes"
	"math/rand"
	"testing"

	"moidore/api"
	"moidore/wire"
)

// P7.5: what is put is got, all of it; bytes of which a thing is got are those that are put of it.
func TestBoth(t *testing.T) { each(t, asked.testBoth) }

func (s sort[T]) testBoth(t *testing.T) {
	r := rand.New(rand.NewSource(705))
	for range 600 {
		l := make([]T, r.Intn(4))
		w := wire.NewWriter()
		for i := range l {
			l[i] = s.any(r)
			s.put(w, l[i])
		}
		b, e := w.Bytes()
		if e != api.OK {
			t.Fatalf("%d of %s", e, short(told(l)))
		}
		x, again := wire.NewReader(b), wire.NewWriter()
		for i := range l {
			got := s.get(x)
			if !same(got, l[i]) {
				t.Fatalf("%s, not %s", short(told(got)), short(told(l[i])))
			}
			s.put(again, got)
		}
		c, e := again.Bytes()
		if !x.End() || !bytes.Equal(b, c) || e != api.OK {
			t.Fatalf("%x, not %x", c, b)
		}
	}
}

// P7.5: things of all sorts, put one behind the other.
func TestMixed(t *testing.T) {
	r := rand.New(rand.NewSource(706))
	all := sorts()
	for range 400 {
		var l []thing
		var want []byte
		w := wire.NewWriter()
		for range r.Intn(8) {
			x := all[r.Intn(len(all))].anyThing(r)
			x.put(w)
			l, want = append(l, x), append(want, x.bytes...)
		}
		b, e := w.Bytes()
		if e != api.OK || !bytes.Equal(b, want) {
			t.Fatalf("%x, %d, not %x", b, e, want)
		}
		y := wire.NewReader(b)
		for _, x := range l {
			if got := x.get(y); got != x.told {
				t.Fatalf("%s: %s, not %s", x.name, short(got), short(x.told))
			}
		}
		if !y.End() {
			t.Fatal("there is something left")
		}
	}
}

// P7.5: two things of one sort that are not the same have other bytes, none of which begin with the other one's.
func TestOneWay(t *testing.T) { each(t, asked.testOneWay) }

func (s sort[T]) testOneWay(t *testing.T) {
	seen := map[string][]byte{}
	for _, x := range s.rights() {
		seen[told(x)] = s.bytes(x)
	}
	r := rand.New(rand.NewSource(707))
	for range 150 {
		x := s.any(r)
		b, _ := bytesPut(func(w *wire.Writer) { s.put(w, x) })
		seen[told(x)] = b
	}
	for a, b := range seen {
		for c, d := range seen {
			if a != c && bytes.HasPrefix(b, d) {
				t.Errorf("%s and %s", short(a), short(c))
			}
		}
	}
}

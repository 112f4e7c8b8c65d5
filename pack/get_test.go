package pack

import (
	"bytes"
	"math/rand"
	"slices"
	"testing"

	"moidore/api"
	"moidore/wire"
)

// wantGot wants what is told of bytes to be what the chapter's words say of them: the right thing whose bytes stand next, or a zero one, and the reader spoilt. It says whether there is such a thing.
func (s sort[T]) wantGot(t *testing.T, name string, b []byte) bool {
	t.Helper()
	p := &plain{b: b}
	want := s.parsed(p)
	r := wire.NewReader(b)
	got := s.get(r)
	if p.bad || !s.right(want) {
		if !zero(got) || r.Err() != api.ErrShape || r.Left() != 0 {
			t.Errorf("%s: %s of what is none: %d, %d left", name, short(told(got)), r.Err(), r.Left())
		}
		return false
	}
	if !same(got, want) || r.Err() != api.OK || r.Left() != len(p.b) {
		t.Errorf("%s: %s, not %s: %d, %d left, not %d", name, short(told(got)), short(told(want)), r.Err(), r.Left(), len(p.b))
	}
	if took := b[:len(b)-len(p.b)]; !bytes.Equal(s.bytes(want), took) {
		t.Errorf("%s: another way to write it: %x", name, took)
	}
	return true
}

// P7.3: of the bytes that were put, with nothing behind them, and with more: the thing, and just its bytes are taken.
func TestGet(t *testing.T) { each(t, asked.testGet) }

func (s sort[T]) testGet(t *testing.T) {
	for name, x := range s.rights() {
		b := s.bytes(x)
		for _, more := range [][]byte{nil, {0}, {255}, {4, 0, 1}, make([]byte, 100), bytes.Repeat([]byte{255}, 100), b} {
			r := wire.NewReader(slices.Concat([]byte{9}, b, more))
			r.U8()
			if got := s.get(r); !same(got, x) || r.Err() != api.OK {
				t.Errorf("%s, and %d bytes behind it: %s, %d", name, len(more), short(told(got)), r.Err())
			}
			if !bytes.Equal(r.Raw(len(more)), more) || !r.End() {
				t.Errorf("%s: the %d bytes behind it were taken", name, len(more))
			}
		}
	}
}

// steps is how far apart bytes that are asked stand: each one's turn comes, but in rows that are very long.
func steps(n int) int { return 1 + n/1500 }

// P7.3: cut at each byte there is no such thing.
func TestCut(t *testing.T) { each(t, asked.testCut) }

func (s sort[T]) testCut(t *testing.T) {
	for name, x := range s.rights() {
		b := s.bytes(x)
		for n := 0; n < len(b); n += steps(len(b)) {
			r := wire.NewReader(b[:n])
			if got := s.get(r); !zero(got) || r.Err() != api.ErrShape || r.End() {
				t.Errorf("%s, cut at %d: %s, %d", name, n, short(told(got)), r.Err())
			}
			if r.U8() != 0 || r.Left() != 0 || !zero(s.get(r)) {
				t.Errorf("%s, cut at %d: it is not spoilt", name, n)
			}
		}
	}
}

// P7.3: each byte turned.
func TestTurned(t *testing.T) { each(t, asked.testTurned) }

func (s sort[T]) testTurned(t *testing.T) {
	got := map[bool]int{}
	for name, x := range s.rights() {
		b := s.bytes(x)
		for i := 0; i < len(b); i += steps(len(b)) {
			for _, by := range []byte{1, 2, 4, 0x10, 0x80, 0xff} {
				c := slices.Clone(b)
				c[i] ^= by
				got[s.wantGot(t, name, c)]++
			}
		}
	}
	if got[true] == 0 || got[false] == 0 {
		t.Errorf("%d were right, %d not", got[true], got[false])
	}
}

// P7.3: bytes of things that are not right.
func TestWrongGet(t *testing.T) { each(t, asked.testWrongGet) }

func (s sort[T]) testWrongGet(t *testing.T) {
	for name, text := range s.raw {
		b := unhex(text)
		r := wire.NewReader(b)
		if got := s.get(r); !zero(got) || r.Err() != api.ErrShape || r.Left() != 0 {
			t.Errorf("%s: %s, %d", name, short(told(got)), r.Err())
		}
		if s.wantGot(t, name, b) {
			t.Errorf("%s: there is such a thing", name)
		}
	}
	for name, x := range s.wrongs() {
		s.wantGot(t, name, s.bytes(x))
		s.wantGot(t, name, slices.Concat(s.bytes(x), make([]byte, 50)))
	}
}

// P7.3: bytes that came about by chance.
func TestAnyBytes(t *testing.T) { each(t, asked.testAnyBytes) }

func (s sort[T]) testAnyBytes(t *testing.T) {
	r := rand.New(rand.NewSource(703))
	for range 1500 {
		b := s.bytes(s.any(r))
		for range r.Intn(3) {
			b = spoilt(r, b)
		}
		s.wantGot(t, "any bytes", b)
		c := make([]byte, r.Intn(60))
		for i := range c {
			c[i] = []byte{0, 0, 0, 1, 2, 4, 5, 6, byte(r.Intn(256))}[r.Intn(9)]
		}
		s.wantGot(t, "any few bytes", c)
	}
}

// spoilt is bytes one of which is another one, goes, or is new; or some of which stand there twice.
func spoilt(r *rand.Rand, b []byte) []byte {
	i := r.Intn(len(b) + 1)
	switch k := min(len(b), i+r.Intn(40)); r.Intn(4) {
	case 0:
		return slices.Concat(b[:i], b[min(i+1, len(b)):])
	case 1:
		return slices.Concat(b[:i], []byte{byte(r.Intn(256))}, b[i:])
	case 2:
		return slices.Concat(b[:k], b[i:])
	default:
		c := slices.Clone(b)
		if i < len(b) {
			c[i] = byte(r.Intn(256))
		}
		return c
	}
}

// P7.3: numbers that say more than there is are told of soon, however many bytes stand there.
func TestSaysMore(t *testing.T) {
	many := bytes.Repeat([]byte{255}, 1<<20)
	lists := bytes.Repeat([]byte{4, 0, 1}, 1<<18)
	wide := bytes.Repeat([]byte{4, 0, 100}, 1<<18)
	ones := bytes.Repeat([]byte{1}, 1<<20)
	each(t, func(s asked, t *testing.T) {
		x := s.anyThing(rand.New(rand.NewSource(1)))
		for _, b := range [][]byte{many, lists, wide, many[:5], many[:4], slices.Concat(many[:4], ones), slices.Concat([]byte{127}, many)} {
			r := wire.NewReader(b)
			x.get(r)
			if r.Err() != api.ErrShape {
				t.Errorf("%x..: %d", b[:4], r.Err())
			}
		}
	})
}

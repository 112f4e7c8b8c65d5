package code

import (
	"bytes"
	"math/rand"
	"slices"
	"sync"
	"testing"

	"moidore/api"
	"moidore/wire"
)

// noWriters is writers that no call of wire answered.
func noWriters() []*wire.Writer {
	made := *wire.NewWriter()
	return []*wire.Writer{nil, new(wire.Writer), &made}
}

func noReaders(b []byte) []*wire.Reader {
	made := *wire.NewReader(b)
	return []*wire.Reader{nil, new(wire.Reader), &made}
}

// each asks of all programs, right or not.
func each(ask func(name string, p api.Program)) {
	for name, p := range rights() {
		ask(name, p)
	}
	for name, p := range wrongs() {
		ask(name, p)
	}
}

// R1, R5, P8.1: no writer, such as no call of wire answered, and such as are spoilt.
func TestNoWriter(t *testing.T) {
	each(func(name string, p api.Program) {
		for i, w := range noWriters() {
			Put(w, p)
			if b, e := w.Bytes(); b != nil || e != api.ErrNil {
				t.Errorf("%s, put to the writer %d that is none: %x, %d", name, i, b, e)
			}
		}
		w := wire.NewWriter()
		w.U8(256)
		Put(w, p)
		if b, e := w.Bytes(); b != nil || e != api.ErrArg {
			t.Errorf("%s, put to a spoilt writer: %x, %d", name, b, e)
		}
	})
}

// R1, R5, P8.2: no reader, such as no call of wire answered, such as are spoilt, and one at its end.
func TestNoReader(t *testing.T) {
	each(func(name string, p api.Program) {
		b := plainBytes(p)
		for i, r := range noReaders(b) {
			if got := Get(r); !bare(got) || r.Err() != api.ErrNil || r.Left() != 0 {
				t.Errorf("%s, got of the reader %d that is none: %s, %d", name, i, short(told(got)), r.Err())
			}
		}
		r := wire.NewReader(b)
		r.Spoil()
		if got := Get(r); !bare(got) || r.Err() != api.ErrShape {
			t.Errorf("%s, got of a spoilt reader: %s, %d", name, short(told(got)), r.Err())
		}
		r = wire.NewReader(b)
		r.Raw(len(b))
		if got := Get(r); !bare(got) || r.Err() != api.ErrShape {
			t.Errorf("%s, got of a reader at its end: %s, %d", name, short(told(got)), r.Err())
		}
	})
}

// R3, R4, R6: what is given is as it was behind each call, also the room behind its lists; each call answers alike each time, also of copies, also where lists without elements are none.
func TestArguments(t *testing.T) {
	each(func(name string, p api.Program) {
		want, e := bytesOf(p)
		hash, is := Hash(p)
		roomy, tight := copied(p, 3), copied(p, 0)
		had, hadTight := keep(roomy), keep(tight)
		for _, q := range []api.Program{p, roomy, tight} {
			if b, f := bytesOf(q); !bytes.Equal(b, want) || f != e || Right(q) != is {
				t.Errorf("%s: answered in two ways", name)
			}
			if h, so := Hash(q); h != hash || so != is {
				t.Errorf("%s: hashed in two ways", name)
			}
		}
		if !had.still(roomy) || !hadTight.still(tight) {
			t.Errorf("%s was changed", name)
		}
		b := append(plainBytes(p), "behind"...)
		given := slices.Clone(b)
		got := Get(wire.NewReader(b[:len(b)-6]))
		if !bytes.Equal(b, given) || !same(got, Get(wire.NewReader(given[:len(b)-6]))) {
			t.Errorf("%s: its bytes were changed", name)
		}
	})
}

// R3: what is handed out is new memory: no two lists share any, nor with what is handed out next; what is turned behind a call changes nothing that was told, or is told next.
func TestNewMemory(t *testing.T) {
	for name, p := range rights() {
		b := plainBytes(p)
		two := wire.NewReader(slices.Concat(b, b))
		one := wire.NewReader(b)
		first, second, third := Get(two), Get(two), Get(one)
		l := slices.Concat(spans(first), spans(second), spans(third), spanOf(b))
		slices.SortFunc(l, func(a, b span) int { return int(a.from) - int(b.from) })
		for i := range l {
			if i > 0 && l[i-1].to > l[i].from {
				t.Errorf("%s: two lists share memory", name)
			}
		}
		turn(first)
		if !same(second, p) || !same(third, p) || !bytes.Equal(b, plainBytes(p)) || !same(Get(wire.NewReader(b)), p) {
			t.Errorf("%s: what was handed out, turned, changes something else", name)
		}
		clear(b)
		if !same(second, p) || !same(third, p) {
			t.Errorf("%s: bytes that were handed in, turned, change what was told", name)
		}
		w, q := wire.NewWriter(), copied(p, 2)
		Put(w, q)
		turn(q)
		if c, e := w.Bytes(); !bytes.Equal(c, plainBytes(p)) || e != api.OK {
			t.Errorf("%s: what was handed in, turned, changes what was put", name)
		}
	}
}

// R4: one program is put, got and hashed alike, whatever is done beside it.
func TestAtOnce(t *testing.T) {
	r := rand.New(rand.NewSource(808))
	var l []api.Program
	for range 50 {
		l = append(l, anyProgram(r))
	}
	wrong := make([]int, 8)
	var all sync.WaitGroup
	for g := range wrong {
		all.Go(func() {
			for i := range l {
				p := l[(i+g)%len(l)]
				b, e := bytesOf(p)
				_, is := Hash(p)
				if !bytes.Equal(b, plainBytes(p)) || e != api.OK || !is || !same(Get(wire.NewReader(b)), p) {
					wrong[g]++
				}
			}
		})
	}
	all.Wait()
	if slices.Max(wrong) > 0 {
		t.Error(wrong)
	}
}

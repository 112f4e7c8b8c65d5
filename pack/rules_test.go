package pack

import (
	"bytes"
	"math/rand"
	"reflect"
	"slices"
	"sync"
	"testing"

	"moidore/api"
	"moidore/wire"
)

// noWriters is writers that no call of wire answered, and what their Bytes tell.
func noWriters() []*wire.Writer {
	made := *wire.NewWriter()
	return []*wire.Writer{nil, new(wire.Writer), &made}
}

func noReaders(b []byte) []*wire.Reader {
	made := *wire.NewReader(b)
	return []*wire.Reader{nil, new(wire.Reader), &made}
}

// R1, R5, P7.2, P7.3: no writer and no reader, such as no call of wire answered, such as are spoilt, and a reader at its end.
func TestNone(t *testing.T) { each(t, asked.testNone) }

func (s sort[T]) testNone(t *testing.T) {
	for _, l := range []map[string]T{s.rights(), s.wrongs()} {
		for name, x := range l {
			for i, w := range noWriters() {
				s.put(w, x)
				if b, e := w.Bytes(); b != nil || e != api.ErrNil {
					t.Errorf("%s, put to the writer %d that is none: %x, %d", name, i, b, e)
				}
			}
			w := wire.NewWriter()
			w.U8(256)
			s.put(w, x)
			if b, e := w.Bytes(); b != nil || e != api.ErrArg {
				t.Errorf("%s, put to a spoilt writer: %x, %d", name, b, e)
			}
			b := s.bytes(x)
			for i, r := range noReaders(b) {
				if got := s.get(r); !zero(got) || r.Err() != api.ErrNil || r.Left() != 0 {
					t.Errorf("%s, got of the reader %d that is none: %s, %d", name, i, short(told(got)), r.Err())
				}
			}
			r := wire.NewReader(b)
			r.Spoil()
			if got := s.get(r); !zero(got) || r.Err() != api.ErrShape {
				t.Errorf("%s, got of a spoilt reader: %s, %d", name, short(told(got)), r.Err())
			}
			r = wire.NewReader(b)
			r.Raw(len(b))
			if got := s.get(r); !zero(got) || r.Err() != api.ErrShape {
				t.Errorf("%s, got of a reader at its end: %s, %d", name, short(told(got)), r.Err())
			}
		}
	}
}

// R3, R4, R6: what is given is as it was behind each call, also the room behind its lists; each call answers alike each time, also of copies, also where lists without elements are none.
func TestArguments(t *testing.T) { each(t, asked.testArguments) }

func (s sort[T]) testArguments(t *testing.T) {
	for _, l := range []map[string]T{s.rights(), s.wrongs()} {
		for name, x := range l {
			first, e := bytesPut(func(w *wire.Writer) { s.put(w, x) })
			y := copied(x, 3)
			had := told(whole(y))
			for _, z := range []T{x, y, copied(x, 0)} {
				if b, f := bytesPut(func(w *wire.Writer) { s.put(w, z) }); !bytes.Equal(b, first) || f != e {
					t.Errorf("%s: answered in two ways", name)
				}
			}
			if told(whole(y)) != had {
				t.Errorf("%s was changed", name)
			}
			b := append(s.bytes(x), "behind"...)
			given := slices.Clone(b)
			r := wire.NewReader(b[:len(b)-6])
			got := told(s.get(r))
			if !bytes.Equal(b, given) || told(s.get(wire.NewReader(given))) != got {
				t.Errorf("%s: its bytes were changed", name)
			}
		}
	}
}

// R3, R6: the same of the calls that answer whether a thing is right, and how long it is.
func TestAsksArguments(t *testing.T) {
	ask := func(name string, o api.Output) {
		y, z := copied(o, 3), copied(o, 0)
		had := told(whole(y))
		l, m := entries(entry(ref(1, 1, 1), y), at(ref(2, 1, 1))), entries(entry(ref(1, 1, 1), z), at(ref(2, 1, 1)))
		d, e := api.Diff{Spent: l[:1], Made: l[1:], Mint: manyTotals(3)}, api.Diff{Spent: m[:1], Made: m[1:], Mint: manyTotals(3)}
		hadDiff := told(whole(d))
		want := RightOutput(o)
		if RightOutput(y) != want || RightOutput(z) != want || Long(y) != Long(o) || Long(z) != Long(o) {
			t.Errorf("%s: answered in two ways", name)
		}
		if RightEntries(l) != want || RightEntries(m) != want || RightDiff(d) != want || RightDiff(e) != want {
			t.Errorf("%s, as an entry: answered in two ways", name)
		}
		if told(whole(y)) != had || told(whole(d)) != hadDiff {
			t.Errorf("%s was changed", name)
		}
	}
	for name, o := range rightOutputs() {
		ask(name, o)
	}
	for name, o := range wrongOutputs() {
		ask(name, o)
	}
	if !RightEntries(nil) || !RightEntries([]api.Entry{}) || !RightDiff(api.Diff{}) || !RightDiff(api.Diff{Spent: []api.Entry{}, Made: []api.Entry{}, Mint: []api.Total{}}) {
		t.Error("lists without elements")
	}
}

// span is the memory of a list.
type span struct{ from, to uintptr }

// spans is the memory of all lists of a thing.
func spans(v reflect.Value) []span {
	var l []span
	switch v.Kind() {
	case reflect.Struct:
		for i := range v.NumField() {
			l = append(l, spans(v.Field(i))...)
		}
	case reflect.Slice:
		if v.Cap() > 0 {
			l = append(l, span{v.Pointer(), v.Pointer() + uintptr(v.Cap())*v.Type().Elem().Size()})
		}
		for i := range v.Len() {
			l = append(l, spans(v.Index(i))...)
		}
	}
	return l
}

// R3: what is handed out is new memory: no two lists share any, nor with what is handed out next; what is turned behind a call changes nothing that was told, or is told next.
func TestNewMemory(t *testing.T) { each(t, asked.testNewMemory) }

func (s sort[T]) testNewMemory(t *testing.T) {
	for name, x := range s.rights() {
		b := s.bytes(x)
		want := told(x)
		two := wire.NewReader(slices.Concat(b, b))
		one := wire.NewReader(b)
		first, second, third := s.get(two), s.get(two), s.get(one)
		l := slices.Concat(spans(reflect.ValueOf(first)), spans(reflect.ValueOf(second)), spans(reflect.ValueOf(third)), spans(reflect.ValueOf(b)))
		slices.SortFunc(l, func(a, b span) int { return int(a.from) - int(b.from) })
		for i := range l {
			if i > 0 && l[i-1].to > l[i].from {
				t.Errorf("%s: two lists share memory", name)
			}
		}
		turn(first)
		if told(second) != want || told(third) != want || !bytes.Equal(b, s.bytes(x)) || told(s.get(wire.NewReader(b))) != want {
			t.Errorf("%s: what was handed out, turned, changes something else", name)
		}
		clear(b)
		if told(second) != want {
			t.Errorf("%s: bytes that were handed in, turned, change what was told", name)
		}
		w, y := wire.NewWriter(), copied(x, 2)
		s.put(w, y)
		turn(y)
		if c, e := w.Bytes(); !bytes.Equal(c, s.bytes(x)) || e != api.OK {
			t.Errorf("%s: what was handed in, turned, changes what was put", name)
		}
	}
}

// R1: lists that are parts of themselves' memory, and numbers at their ends, put by each call.
func TestOdd(t *testing.T) {
	l := entries(at(ref(1, 1, 1)), at(ref(2, 1, 1)), at(ref(3, 1, 1)))
	if !RightDiff(api.Diff{Spent: l[:1], Made: l[1:]}) || RightDiff(api.Diff{Spent: l[:2], Made: l[1:]}) {
		t.Error("rows of one list")
	}
	for _, n := range []int64{least, least + 1, -1, 0, 1, most - 1, most} {
		for _, m := range []int64{least, -1, 0, 1, most} {
			a := api.Asset{Amount: n}
			_, e := bytesPut(func(w *wire.Writer) { PutAssets(w, []api.Asset{a}) })
			if (e == api.OK) != (n != 0) {
				t.Errorf("the amount %d: %d", n, e)
			}
			_, e = bytesPut(func(w *wire.Writer) { PutValue(w, api.Value{Coin: m, Assets: []api.Asset{a}}) })
			if (e == api.OK) != (n > 0 && m >= 0) {
				t.Errorf("the coin %d, the amount %d: %d", m, n, e)
			}
			_, e = bytesPut(func(w *wire.Writer) { PutDiff(w, api.Diff{Fees: n, Forfeits: m}) })
			if (e == api.OK) != (n >= 0 && m >= 0) || RightDiff(api.Diff{Fees: n, Forfeits: m}) != (e == api.OK) {
				t.Errorf("the fees %d, the forfeits %d: %d", n, m, e)
			}
			_, e = bytesPut(func(w *wire.Writer) { PutTotals(w, []api.Total{{Sum: api.Wide{Hi: n, Lo: uint64(m)}}}) })
			if (e == api.OK) != (n != 0 || m != 0) {
				t.Errorf("the sum %d, %d: %d", n, m, e)
			}
			_, e = bytesPut(func(w *wire.Writer) { PutTerm(w, nodes(api.Node{Kind: api.TermKind(n), Kids: int(m)})) })
			if (e == api.OK) != (n == 1 && m == 0) {
				t.Errorf("the kind %d, %d kids: %d", n, m, e)
			}
		}
	}
}

// R4: one thing is put and got alike, whatever is put and got beside it.
func TestAtOnce(t *testing.T) { each(t, asked.testAtOnce) }

func (s sort[T]) testAtOnce(t *testing.T) {
	r := rand.New(rand.NewSource(708))
	var things []T
	for range 20 {
		things = append(things, s.any(r))
	}
	wrong := make([]int, 8)
	var all sync.WaitGroup
	for g := range wrong {
		all.Go(func() {
			for i := range things {
				x := things[(i+g)%len(things)]
				b, e := bytesPut(func(w *wire.Writer) { s.put(w, x) })
				if !bytes.Equal(b, s.bytes(x)) || e != api.OK || !same(s.get(wire.NewReader(b)), x) {
					wrong[g]++
				}
			}
		})
	}
	all.Wait()
	if slices.Max(wrong) > 0 {
		t.Error(wrong)
	}
}

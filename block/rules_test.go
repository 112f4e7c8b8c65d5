package block

import (
	"bytes"
	"math/rand"
	"reflect"
	"slices"
	"sync"
	"testing"

	"moidore/api"
	"moidore/wire"
)

// copied is a thing in memory of its own; each of its lists has room for so many more elements behind it.
func copied[T any](x T, room int) T { return copyOf(reflect.ValueOf(x), room).Interface().(T) }

func copyOf(v reflect.Value, room int) reflect.Value {
	c := reflect.New(v.Type()).Elem()
	switch v.Kind() {
	case reflect.Struct:
		for i := range v.NumField() {
			c.Field(i).Set(copyOf(v.Field(i), room))
		}
	case reflect.Slice:
		l := reflect.MakeSlice(v.Type(), v.Len()+room, v.Len()+room)
		for i := range v.Len() {
			l.Index(i).Set(copyOf(v.Index(i), room))
		}
		c.Set(l.Slice(0, v.Len()))
	default:
		c.Set(v)
	}
	return c
}

// eachList does something with each list of a thing, the inner ones first, as far as its memory goes.
func eachList(v reflect.Value, do func(l reflect.Value)) {
	switch v.Kind() {
	case reflect.Struct:
		for i := range v.NumField() {
			eachList(v.Field(i), do)
		}
	case reflect.Slice:
		l := v.Slice(0, v.Cap())
		for i := range l.Len() {
			eachList(l.Index(i), do)
		}
		do(l)
	}
}

// turn makes noughts of all elements of all lists of a thing.
func turn(x any) {
	eachList(reflect.ValueOf(x), func(l reflect.Value) {
		for i := range l.Len() {
			l.Index(i).SetZero()
		}
	})
}

// room is what stands behind the lists of a thing, in their memory, and how long they are.
func room(x any) []any {
	var l []any
	eachList(reflect.ValueOf(x), func(v reflect.Value) {
		l = append(l, v.Len(), copied(v.Interface(), 0))
	})
	return l
}

// span is the memory of a list.
type span struct{ from, to uintptr }

func spans(l []span, x any) []span {
	eachList(reflect.ValueOf(x), func(v reflect.Value) {
		if v.Cap() > 0 {
			l = append(l, span{v.Pointer(), v.Pointer() + uintptr(v.Cap())*v.Type().Elem().Size()})
		}
	})
	return l
}

// many is right blocks, and such as are not.
func many() []api.Block {
	r := rand.New(rand.NewSource(1206))
	l := []api.Block{{}, {Header: someHeader()}, someBlock(), {Txs: row(30)}, {Txs: row(31)}, {Header: api.Header{Slot: -1}, Txs: row(3)}, {Header: api.Header{Height: -1}}}
	for _, x := range wrongTxs() {
		if len(x.Terms) < 100 {
			l = append(l, api.Block{Txs: []api.Tx{full(), x, {}}})
		}
	}
	for range 20 {
		l = append(l, anyBlock(r))
	}
	return l
}

// answers is what all calls answer of one block.
type answers struct {
	right, isId, isRoot, isPut bool
	id, root                   api.Hash
	bytes, header              []byte
	err                        api.Errno
}

func ask(x api.Block) answers {
	var a answers
	a.right = Right(x)
	a.id, a.isId = Id(x.Header)
	a.root, a.isRoot = Root(x.Txs...)
	a.bytes, a.isPut = Put(x)
	a.header, a.err = bytesPut(func(w *wire.Writer) { PutHeader(w, x.Header) })
	return a
}

// R3, R4, R6: what is given is as it was behind each call, also the room behind its lists; each call answers alike each time, also of copies, also where lists without elements are none.
func TestArguments(t *testing.T) {
	t.Parallel()
	for _, x := range many() {
		want := ask(x)
		for _, y := range []api.Block{copied(x, 3), copied(x, 0)} {
			had := room(y)
			for range 2 {
				if got := ask(y); !reflect.DeepEqual(got, want) {
					t.Errorf("%s: answered in two ways", short(x))
				}
			}
			if !reflect.DeepEqual(room(y), had) || !same(x, y) {
				t.Errorf("%s was changed", short(x))
			}
		}
		if !want.isPut {
			continue
		}
		b := append(slices.Clone(want.bytes), "behind"...)
		given := slices.Clone(b)
		first, is := Get(b[:len(b)-6])
		again, so := Get(given[:len(b)-6])
		none, may := Get(b)
		if !bytes.Equal(b, given) || !same(first, x) || !same(again, x) || !is || !so || !zero(none) || may {
			t.Errorf("%s: its bytes were changed, or told in two ways", short(x))
		}
		r := wire.NewReader(b)
		if y := GetHeader(r); y != x.Header || !bytes.Equal(b, given) {
			t.Errorf("%s: its bytes were changed: %s", short(x), short(y))
		}
	}
}

// R3: what is handed out is new memory: no two lists share any, nor with what is handed in, or out next; what is turned behind a call changes nothing that was told, or is told next.
func TestNewMemory(t *testing.T) {
	t.Parallel()
	for _, x := range many() {
		b, is := Put(x)
		if !is {
			continue
		}
		given := copied(x, 2)
		put, _ := Put(given)
		first, _ := Get(b)
		second, _ := Get(b)
		var l []span
		for _, y := range []any{b, given, put, first, second} {
			l = spans(l, y)
		}
		slices.SortFunc(l, func(a, b span) int { return int(a.from) - int(b.from) })
		for i := range l {
			if i > 0 && l[i-1].to > l[i].from {
				t.Errorf("%s: two lists share memory", short(x))
			}
		}
		turn(first)
		if third, _ := Get(b); !same(second, x) || !same(third, x) || !bytes.Equal(b, put) {
			t.Errorf("%s: what was handed out, turned, changes something else", short(x))
		}
		turn(given)
		turn(b)
		if again, _ := Put(x); !same(second, x) || !bytes.Equal(put, blockBytes(x)) || !bytes.Equal(again, put) {
			t.Errorf("%s: what was handed in, turned, changes what was told", short(x))
		}
		w, r := wire.NewWriter(), wire.NewReader(put)
		PutHeader(w, x.Header)
		header := GetHeader(r)
		turn(put)
		if c, e := w.Bytes(); !bytes.Equal(c, headerBytes(x.Header)) || e != api.OK || header != x.Header {
			t.Errorf("%s: the header, %x, %d", short(x), c, e)
		}
	}
}

// R6: lists without elements and nil ones are one.
func TestNoElements(t *testing.T) {
	t.Parallel()
	none := ask(api.Block{Header: someHeader()})
	if got := ask(api.Block{Header: someHeader(), Txs: []api.Tx{}}); !reflect.DeepEqual(got, none) {
		t.Errorf("%v, not %v", got, none)
	}
	root, is := Root()
	wantHash(t, "no transactions", root, is, none.root, true)
	bare := api.Tx{
		Body:       api.Body{Inputs: []api.Ref{}, Collateral: []api.Ref{}, Return: []api.Output{}, Outputs: []api.Output{}, Mint: []api.Asset{}},
		Signatures: []api.Signature{}, Programs: []api.Program{}, Terms: []api.Term{}, Redeemers: []api.Redeemer{},
	}
	want := ask(api.Block{Txs: make([]api.Tx, 2)})
	for _, l := range [][]api.Tx{{bare, bare}, {{}, bare}, {bare, {}}} {
		if got := ask(api.Block{Txs: l}); !reflect.DeepEqual(got, want) {
			t.Errorf("%v, not %v", got, want)
		}
	}
}

// noWriters is writers that no call of wire answered.
func noWriters() []*wire.Writer {
	made := *wire.NewWriter()
	return []*wire.Writer{nil, new(wire.Writer), &made}
}

func noReaders(b []byte) []*wire.Reader {
	made := *wire.NewReader(b)
	return []*wire.Reader{nil, new(wire.Reader), &made}
}

// R1, R5, P12.2: no writer, such as no call of wire answered, and such as are spoilt.
func TestNoWriter(t *testing.T) {
	t.Parallel()
	for _, x := range append(wrongHeaders(), api.Header{}, someHeader()) {
		for i, w := range noWriters() {
			PutHeader(w, x)
			if b, e := w.Bytes(); b != nil || e != api.ErrNil {
				t.Errorf("%s, put to the writer %d that is none: %x, %d", short(x), i, b, e)
			}
		}
		for _, spoil := range []func(w *wire.Writer){func(w *wire.Writer) { w.U8(256) }, (*wire.Writer).Spoil} {
			w := wire.NewWriter()
			w.U8(1)
			spoil(w)
			PutHeader(w, x)
			if b, e := w.Bytes(); b != nil || e != api.ErrArg {
				t.Errorf("%s, put to a spoilt writer: %x, %d", short(x), b, e)
			}
		}
	}
}

// R1, R5, P12.2: no reader, such as no call of wire answered, such as are spoilt, and one at its end.
func TestNoReader(t *testing.T) {
	t.Parallel()
	for _, b := range [][]byte{nil, make([]byte, 84), make([]byte, 83), someHeaderBytes(), bytes.Repeat([]byte{255}, 84), someBlockBytes()} {
		for i, r := range noReaders(b) {
			if x := GetHeader(r); !zero(x) || r.Err() != api.ErrNil || r.Left() != 0 || r.End() {
				t.Errorf("%x, got of the reader %d that is none: %s, %d", b, i, short(x), r.Err())
			}
		}
		r := wire.NewReader(b)
		r.Spoil()
		if x := GetHeader(r); !zero(x) || r.Err() != api.ErrShape {
			t.Errorf("%x, got of a spoilt reader: %s, %d", b, short(x), r.Err())
		}
		r = wire.NewReader(b)
		r.Raw(len(b))
		if x := GetHeader(r); !zero(x) || r.Err() != api.ErrShape {
			t.Errorf("%x, got of a reader at its end: %s, %d", b, short(x), r.Err())
		}
	}
}

// R1, R4: one block is put, got and hashed alike, whatever is done beside it; and so are ids sealed.
func TestAtOnce(t *testing.T) {
	t.Parallel()
	l := many()
	var want []answers
	for _, x := range l {
		want = append(want, ask(x))
	}
	wrong := make([]int, 6)
	var done sync.WaitGroup
	for g := range wrong {
		done.Go(func() {
			for i := range l {
				i = (i + 7*g) % len(l)
				got := ask(l[i])
				x, is := Get(got.bytes)
				if !reflect.DeepEqual(got, want[i]) || is != got.right || is && !same(x, l[i]) || got.isId && !Sealed(got.id, 0) {
					wrong[g]++
				}
			}
		})
	}
	done.Wait()
	if slices.Max(wrong) > 0 {
		t.Error(wrong)
	}
}

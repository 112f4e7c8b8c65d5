package tx

import (
	"bytes"
	"math/rand"
	"reflect"
	"slices"
	"sync"
	"testing"

	"moidore/api"
	"moidore/wire"
)

// noWriters is writers that no call of wire answered.
func noWriters() []*wire.Writer {
	made := *wire.NewWriter()
	return []*wire.Writer{nil, new(wire.Writer), &made}
}

func noReaders(b []byte) []*wire.Reader {
	made := *wire.NewReader(b)
	return []*wire.Reader{nil, new(wire.Reader), &made}
}

// someBends is right ones and such as are not, but those that take long.
func someBends() []bend {
	return slices.DeleteFunc(slices.Concat(rightBends(), wrongBends()), func(x bend) bool { return len(txBytes(x.bent())) > 70000 })
}

// R1, R5, P11.2: no writer, such as no call of wire answered, and such as are spoilt.
func TestNoWriter(t *testing.T) {
	t.Parallel()
	for _, x := range someBends() {
		for i, w := range noWriters() {
			PutTx(w, x.bent())
			if b, e := w.Bytes(); b != nil || e != api.ErrNil {
				t.Errorf("%s, put to the writer %d that is none: %x, %d", x.name, i, b, e)
			}
		}
		w := wire.NewWriter()
		w.U8(256)
		PutTx(w, x.bent())
		if b, e := w.Bytes(); b != nil || e != api.ErrArg {
			t.Errorf("%s, put to a spoilt writer: %x, %d", x.name, b, e)
		}
	}
}

// R1, R5, P11.2: no reader, such as no call of wire answered, such as are spoilt, and one at its end.
func TestNoReader(t *testing.T) {
	t.Parallel()
	for _, x := range someBends() {
		b := txBytes(x.bent())
		for i, r := range noReaders(b) {
			if got := GetTx(r); !zero(got) || r.Err() != api.ErrNil || r.Left() != 0 {
				t.Errorf("%s, got of the reader %d that is none: %s, %d", x.name, i, short(got), r.Err())
			}
		}
		r := wire.NewReader(b)
		r.Spoil()
		if got := GetTx(r); !zero(got) || r.Err() != api.ErrShape {
			t.Errorf("%s, got of a spoilt reader: %s, %d", x.name, short(got), r.Err())
		}
		r = wire.NewReader(b)
		r.Raw(len(b))
		if got := GetTx(r); !zero(got) || r.Err() != api.ErrShape {
			t.Errorf("%s, got of a reader at its end: %s, %d", x.name, short(got), r.Err())
		}
	}
}

// answers is what all calls answer of one transaction.
type answers struct {
	right, isId, isData, isPut bool
	id, data                   api.Hash
	bytes, put                 []byte
	err                        api.Errno
}

func ask(x api.Tx) answers {
	var a answers
	a.right = Right(x)
	a.id, a.isId = Id(x.Body)
	a.data, a.isData = Data(x)
	a.bytes, a.isPut = Put(x)
	a.put, a.err = bytesOf(x)
	return a
}

// R3, R4, R6: what is given is as it was behind each call, also the room behind its lists; each call answers alike each time, also of copies, also where lists without elements are none.
func TestArguments(t *testing.T) {
	t.Parallel()
	for _, x := range someBends() {
		want := ask(x.bent())
		roomy, tight := copied(x.bent(), 3), copied(x.bent(), 0)
		had, hadTight := whole(roomy), whole(tight)
		for _, y := range []api.Tx{roomy, tight, roomy} {
			if got := ask(y); !same(got.bytes, want.bytes) || !reflect.DeepEqual(got, want) {
				t.Errorf("%s: answered in two ways", x.name)
			}
		}
		if !same(whole(roomy), had) || !same(whole(tight), hadTight) {
			t.Errorf("%s was changed", x.name)
		}
		b := append(txBytes(x.bent()), "behind"...)
		given := slices.Clone(b)
		first, is := Get(b[:len(b)-6])
		again, so := Get(given[:len(b)-6])
		if !bytes.Equal(b, given) || !same(first, again) || is != so {
			t.Errorf("%s: its bytes were changed", x.name)
		}
		if !same(GetTx(wire.NewReader(b[:len(b)-6])), first) || !bytes.Equal(b, given) {
			t.Errorf("%s: its bytes were changed, or told in two ways", x.name)
		}
	}
}

// R3: what is handed out is new memory: no two lists share any, nor with what is handed in, or out next; what is turned behind a call changes nothing that was told, or is told next.
func TestNewMemory(t *testing.T) {
	t.Parallel()
	for _, x := range rightBends() {
		want := x.bent()
		b := txBytes(want)
		two := wire.NewReader(slices.Concat(b, b))
		first, second := GetTx(two), GetTx(two)
		third, _ := Get(b)
		put, _ := Put(want)
		l := spans(reflect.ValueOf(b))
		for _, y := range []any{first, second, third, put} {
			l = append(l, spans(reflect.ValueOf(y))...)
		}
		slices.SortFunc(l, func(a, b span) int { return int(a.from) - int(b.from) })
		for i := range l {
			if i > 0 && l[i-1].to > l[i].from {
				t.Errorf("%s: two lists share memory", x.name)
			}
		}
		turn(first)
		fourth, _ := Get(b)
		if !same(second, want) || !same(third, want) || !same(fourth, want) || !bytes.Equal(b, put) {
			t.Errorf("%s: what was handed out, turned, changes something else", x.name)
		}
		clear(b)
		if !same(second, want) || !same(third, want) {
			t.Errorf("%s: bytes that were handed in, turned, change what was told", x.name)
		}
		w, y := wire.NewWriter(), copied(want, 2)
		PutTx(w, y)
		kept, _ := Put(y)
		turn(y)
		if c, e := w.Bytes(); !bytes.Equal(c, put) || !bytes.Equal(kept, put) || e != api.OK {
			t.Errorf("%s: what was handed in, turned, changes what was put", x.name)
		}
		clear(kept)
		if again, _ := Put(want); !bytes.Equal(again, put) {
			t.Errorf("%s: bytes that were handed out, turned, change what is put", x.name)
		}
	}
}

// R1: lists that share memory with one another, and such as have very many elements.
func TestOdd(t *testing.T) {
	t.Parallel()
	refs := many(30, ref(1, 2, 3))
	chains := sig(1, 35).Chains
	x := api.Tx{Body: api.Body{Inputs: refs, Collateral: refs}, Signatures: many(60, api.Signature{Chains: chains})}
	wantAsked(t, "shared lists", x, true, true, true)
	x.Signatures[59].Chains = chains[:34]
	wantAsked(t, "a part of one", x, false, true, true)
	const n = 1 << 20
	wantAsked(t, "many refs", api.Tx{Body: api.Body{Inputs: make([]api.Ref, n)}}, false, false, true)
	wantAsked(t, "many signatures", api.Tx{Signatures: make([]api.Signature, n)}, false, true, true)
	wantAsked(t, "many terms", api.Tx{Terms: make([]api.Term, n)}, false, true, false)
	wantAsked(t, "many nodes", api.Tx{Terms: []api.Term{{Nodes: make([]api.Node, n)}}}, false, true, false)
	wantAsked(t, "many assets", api.Tx{Body: api.Body{Mint: make([]api.Asset, n)}}, false, false, true)
}

// R4: one transaction is put, got and hashed alike, whatever is done beside it.
func TestAtOnce(t *testing.T) {
	t.Parallel()
	r := rand.New(rand.NewSource(1107))
	var l []api.Tx
	for range 50 {
		l = append(l, anyTx(r))
	}
	wrong := make([]int, 8)
	var done sync.WaitGroup
	for g := range wrong {
		done.Go(func() {
			for i := range l {
				x := l[(i+g)%len(l)]
				b, is := Put(x)
				y, got := Get(b)
				if !bytes.Equal(b, txBytes(x)) || !is || !got || !same(x, y) || !reflect.DeepEqual(ask(x), ask(y)) {
					wrong[g]++
				}
			}
		})
	}
	done.Wait()
	if slices.Max(wrong) > 0 {
		t.Error(wrong)
	}
}

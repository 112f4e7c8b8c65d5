package block

import (
	"bytes"
	"slices"
	"testing"

	"moidore/api"
	"moidore/wire"
)

// P12.2: the bytes of headers and blocks that are written down by hand.
func TestByHand(t *testing.T) {
	t.Parallel()
	b, e := bytesPut(func(w *wire.Writer) { PutHeader(w, someHeader()) })
	if !bytes.Equal(b, someHeaderBytes()) || e != api.OK {
		t.Errorf("the header: %x, %d", b, e)
	}
	r := wire.NewReader(someHeaderBytes())
	if x := GetHeader(r); x != someHeader() || !r.End() {
		t.Errorf("the header: %s, %d", short(x), r.Err())
	}
	for name, x := range map[string]struct {
		block api.Block
		bytes []byte
	}{
		"no transactions": {api.Block{Header: someHeader()}, append(someHeaderBytes(), 0, 0)},
		"one":             {api.Block{Header: someHeader(), Txs: []api.Tx{full()}}, slices.Concat(someHeaderBytes(), []byte{0, 1}, fullBytes())},
		"three":           {someBlock(), someBlockBytes()},
		"30 of nothing":   {api.Block{Header: someHeader(), Txs: make([]api.Tx, 30)}, slices.Concat(someHeaderBytes(), []byte{0, 30}, make([]byte, 30*75))},
	} {
		if b, is := Put(x.block); !bytes.Equal(b, x.bytes) || !is {
			t.Errorf("%s: %x, %t", name, b, is)
		}
		if y, is := Get(x.bytes); !same(y, x.block) || !is {
			t.Errorf("%s: %s, %t", name, short(y), is)
		}
	}
}

// P12.2: a header put as a part of others, behind some and ahead of some, more than once.
func TestPutHeader(t *testing.T) {
	t.Parallel()
	b, e := bytesPut(func(w *wire.Writer) {
		w.U16(0x1234)
		PutHeader(w, someHeader())
		w.Text("z")
		PutHeader(w, api.Header{})
		PutHeader(w, someHeader())
	})
	want := slices.Concat(unhex("1234"), someHeaderBytes(), unhex("00017a"), make([]byte, 84), someHeaderBytes())
	if !bytes.Equal(b, want) || e != api.OK {
		t.Errorf("%x, %d", b, e)
	}
}

// wrongHeaders is headers that are not right; cut to four bytes, some of their heights would be.
func wrongHeaders() []api.Header {
	return []api.Header{
		{Height: -1}, {Height: 1 << 31}, {Height: 1<<32 - 1}, {Height: 1 << 32}, {Height: 1<<32 + 1}, {Height: least}, {Height: most},
		{Slot: -1}, {Slot: 1<<40 + 1}, {Slot: least}, {Slot: most}, {Height: -1, Slot: -1},
	}
}

// P12.2: one that is not right spoils the writer, which then takes nothing more.
func TestWrongPut(t *testing.T) {
	t.Parallel()
	for _, x := range wrongHeaders() {
		b, e := bytesPut(func(w *wire.Writer) {
			w.U8(1)
			PutHeader(w, x)
			w.U8(2)
			PutHeader(w, someHeader())
		})
		if b != nil || e != api.ErrArg {
			t.Errorf("%s: %x, %d", short(x), b, e)
		}
	}
}

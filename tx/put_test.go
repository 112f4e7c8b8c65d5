package tx

import (
	"bytes"
	"slices"
	"testing"

	"moidore/api"
	"moidore/wire"
)

// P11.2: the bytes of a transaction with something of everything, written down by hand.
func TestByHand(t *testing.T) {
	t.Parallel()
	want := fullBytes()
	if b, is := Put(full()); !bytes.Equal(b, want) || !is {
		t.Errorf("%x, %t", b, is)
	}
	x, is := Get(want)
	if !same(x, full()) || !is {
		t.Errorf("%s, %t", short(x), is)
	}
	invalid := full()
	invalid.Valid = false
	if b, is := Put(invalid); !bytes.Equal(b, slices.Concat(want[:len(want)-1], []byte{0})) || !is {
		t.Errorf("not valid: %x, %t", b, is)
	}
}

// P11.2: each right transaction's bytes are those of the tables, alone, and behind and ahead of others.
func TestPut(t *testing.T) {
	t.Parallel()
	for _, x := range rightBends() {
		y := x.bent()
		want := txBytes(y)
		if b, is := Put(y); !bytes.Equal(b, want) || !is {
			t.Errorf("%s: %d bytes, %t, not %d", x.name, len(b), is, len(want))
		}
		if b, e := bytesOf(y); !bytes.Equal(b, want) || e != api.OK {
			t.Errorf("%s, put to a writer: %d bytes, %d, not %d", x.name, len(b), e, len(want))
		}
		b, e := bytesPut(func(w *wire.Writer) {
			w.U16(0x1234)
			PutTx(w, y)
			w.Text("z")
			PutTx(w, y)
		})
		if !bytes.Equal(b, slices.Concat(unhex("1234"), want, unhex("00017a"), want)) || e != api.OK {
			t.Errorf("%s, amid others: %d bytes, %d", x.name, len(b), e)
		}
	}
}

// P11.2: one that is not right has no bytes, and spoils the writer, which then takes nothing more.
func TestWrongPut(t *testing.T) {
	t.Parallel()
	for _, x := range wrongBends() {
		y := x.bent()
		if b, is := Put(y); b != nil || is {
			t.Errorf("%s: %d bytes, %t", x.name, len(b), is)
		}
		if b, e := bytesOf(y); b != nil || e != api.ErrArg {
			t.Errorf("%s, put to a writer: %d bytes, %d", x.name, len(b), e)
		}
		b, e := bytesPut(func(w *wire.Writer) {
			w.U8(1)
			PutTx(w, y)
			w.U8(2)
			PutTx(w, full())
		})
		if b != nil || e != api.ErrArg {
			t.Errorf("%s, amid others: %d bytes, %d", x.name, len(b), e)
		}
	}
}

// P11.2: as many bytes as may be, put where other bytes stand already: those do not count.
func TestPutBehind(t *testing.T) {
	t.Parallel()
	x := padded(full(), 1<<18)
	ahead := bytes.Repeat([]byte{7}, 1000)
	b, e := bytesPut(func(w *wire.Writer) {
		w.Raw(ahead...)
		PutTx(w, x)
		PutTx(w, x)
	})
	if want := txBytes(x); !bytes.Equal(b, slices.Concat(ahead, want, want)) || e != api.OK {
		t.Errorf("%d bytes, %d", len(b), e)
	}
}

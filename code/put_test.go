package code

import (
	"bytes"
	"slices"
	"testing"

	"moidore/api"
	"moidore/pack"
	"moidore/sum"
	"moidore/wire"
)

// P8.1: each right program's bytes are those of the table, behind those that are there.
func TestPut(t *testing.T) {
	for name, p := range rights() {
		want := plainBytes(p)
		if b, e := bytesOf(p); !bytes.Equal(b, want) || e != api.OK {
			t.Errorf("%s: %x, %d, not %x", name, b, e, want)
		}
		b, e := bytesPut(func(w *wire.Writer) {
			w.U16(0x1234)
			Put(w, p)
			w.Text("z")
			Put(w, p)
		})
		if !bytes.Equal(b, slices.Concat(unhex("1234"), want, unhex("00017a"), want)) || e != api.OK {
			t.Errorf("%s, amid others: %x, %d", name, b, e)
		}
	}
}

// P8.1: a program that is not right, for each reason, spoils the writer.
func TestWrongPut(t *testing.T) {
	for name, p := range wrongs() {
		if b, e := bytesOf(p); b != nil || e != api.ErrArg {
			t.Errorf("%s: %x, %d", name, b, e)
		}
		b, e := bytesPut(func(w *wire.Writer) {
			w.U8(1)
			Put(w, p)
			Put(w, prog(0, op(api.OpDone)))
			w.U8(2)
		})
		if b != nil || e != api.ErrArg {
			t.Errorf("%s, amid others: %x, %d", name, b, e)
		}
	}
}

// P8.1: each line of the table, call by call of wire and pack.
func TestCallByCall(t *testing.T) {
	data := list(num(1), text("ab"))
	byHand := []struct {
		instr api.Instr
		put   func(w *wire.Writer)
	}{
		{opNum(api.OpPushInt, -2), func(w *wire.Writer) { w.U8(1); w.I64(-2) }},
		{opBits(api.OpPushReal, minusNought), func(w *wire.Writer) { w.U8(2); w.U64(minusNought) }},
		{opTerm(api.OpPushTerm, data), func(w *wire.Writer) { w.U8(3); pack.PutTerm(w, data) }},
		{opNum(api.OpTake, 39), func(w *wire.Writer) { w.U8(4); w.U8(39) }},
		{opNum(api.OpDrop, 38), func(w *wire.Writer) { w.U8(5); w.U8(38) }},
		{opNum(api.OpJump, 299), func(w *wire.Writer) { w.U8(6); w.U16(299) }},
		{opNum(api.OpUnless, 258), func(w *wire.Writer) { w.U8(7); w.U16(258) }},
		{opNum(api.OpMakeList, 40), func(w *wire.Writer) { w.U8(39); w.U8(40) }},
		{makeTag(37, 0x01020304), func(w *wire.Writer) { w.U8(40); w.U8(37); w.U32(0x01020304) }},
	}
	for _, k := range plainOps() {
		x := byHand[0]
		x.instr, x.put = op(k), func(w *wire.Writer) { w.U8(int(k)) }
		byHand = append(byHand, x)
	}
	if len(byHand) != 50 {
		t.Errorf("%d Ops", len(byHand))
	}
	var all []api.Instr
	for _, x := range byHand {
		all = append(all, x.instr)
		b, e := bytesOf(prog(3, x.instr))
		want, _ := bytesPut(func(w *wire.Writer) {
			w.U8(3)
			w.U16(1)
			x.put(w)
		})
		if !bytes.Equal(b, want) || e != api.OK {
			t.Errorf("%s: %x, %d, not %x", told(x.instr), b, e, want)
		}
	}
	b, e := bytesOf(prog(2, all...))
	want, _ := bytesPut(func(w *wire.Writer) {
		w.U8(2)
		w.U16(50)
		for _, x := range byHand {
			x.put(w)
		}
	})
	if !bytes.Equal(b, want) || e != api.OK {
		t.Errorf("all: %x, %d, not %x", b, e, want)
	}
}

// P8.1: the hash of the bytes, and true; noughts and false of what is not right.
func TestHash(t *testing.T) {
	for name, p := range rights() {
		if h, is := Hash(p); h != sum.Of(plainBytes(p)) || !is {
			t.Errorf("%s: %x, %t", name, h, is)
		}
	}
	for name, p := range wrongs() {
		if h, is := Hash(p); h != (api.Hash{}) || is {
			t.Errorf("%s: %x, %t", name, h, is)
		}
	}
}

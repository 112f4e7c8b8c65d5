package wire

import (
	"bytes"

	"moidore/api"
)

// Writer is bytes that are written.
type Writer struct {
	fault
	b []byte
}

// NewWriter is a writer without bytes.
func NewWriter() *Writer {
	w := new(Writer)
	w.begin()
	return w
}

// takes says whether what a call is given is put.
func (w *Writer) takes() bool { return w != nil && w.sound() }

// U8 puts a number from 0 to below 2^8.
func (w *Writer) U8(n int) { w.number(uint64(n), 1) }

// U16 puts a number from 0 to below 2^16.
func (w *Writer) U16(n int) { w.number(uint64(n), 2) }

// U32 puts a number from 0 to below 2^32.
func (w *Writer) U32(n int) { w.number(uint64(n), 4) }

// U64 puts a number.
func (w *Writer) U64(n uint64) { w.number(n, 8) }

// I64 puts a number modulo 2^64.
func (w *Writer) I64(n int64) { w.number(uint64(n), 8) }

// number puts a number in so many bytes. One below 0 comes as one of 2^63 or more, which fits in no fewer than 8.
func (w *Writer) number(n uint64, size int) {
	if !w.takes() {
		return
	}
	if n>>(8*size) != 0 {
		w.spoil()
		return
	}
	for i := size - 1; i >= 0; i-- {
		w.b = append(w.b, byte(n>>(8*i)))
	}
}

// Hash puts a hash's bytes.
func (w *Writer) Hash(h api.Hash) { w.Raw(h[:]...) }

// Raw puts bytes as they are.
func (w *Writer) Raw(b ...byte) {
	if w.takes() {
		w.b = append(w.b, b...)
	}
}

// Text puts how many bytes a text of fewer than 2^16 has, and these.
func (w *Writer) Text(s string) {
	w.U16(len(s))
	if w.takes() {
		w.b = append(w.b, s...)
	}
}

// Flag puts 1, or 0.
func (w *Writer) Flag(is bool) {
	if is {
		w.U8(1)
	} else {
		w.U8(0)
	}
}

// Spoil spoils it.
func (w *Writer) Spoil() {
	if w.takes() {
		w.spoil()
	}
}

// Bytes are those that were put; none and ErrArg, if it is spoilt.
func (w *Writer) Bytes() ([]byte, api.Errno) {
	switch {
	case w == nil || !w.answered():
		return nil, api.ErrNil
	case w.spoilt:
		return nil, api.ErrArg
	}
	return bytes.Clone(w.b), api.OK
}

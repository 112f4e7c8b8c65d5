package wire

import (
	"bytes"

	"moidore/api"
)

// unmet is what an ask throws that is not met.
const unmet = api.ErrShape

// Reader is bytes that are read, and the place up to which they were.
type Reader struct {
	fault
	b  []byte
	at int
}

// NewReader is a reader of bytes.
func NewReader(b []byte) *Reader {
	r := &Reader{b: bytes.Clone(b)}
	r.begin()
	return r
}

// tells says whether asks may be met.
func (r *Reader) tells() bool { return r != nil && r.sound() }

// tell is what an ask tells. One that is not met may have taken a part of its bytes: these are left again.
func tell[T any](r *Reader, ask func() T) (told T) {
	if !r.tells() {
		return told
	}
	at := r.at
	defer func() {
		if recover() != nil {
			r.at = at
			r.spoil()
		}
	}()
	return ask()
}

// next takes n bytes; they are the reader's own.
func (r *Reader) next(n int) []byte {
	if n < 0 || n > len(r.b)-r.at {
		panic(unmet)
	}
	b := r.b[r.at : r.at+n]
	r.at += n
	return b
}

// number takes a number of so many bytes.
func (r *Reader) number(size int) uint64 {
	n := uint64(0)
	for _, b := range r.next(size) {
		n = n<<8 | uint64(b)
	}
	return n
}

// upTo takes a number of size bytes that is at most most.
func (r *Reader) upTo(most, size int) int {
	n := int(r.number(size))
	if n > most {
		panic(unmet)
	}
	return n
}

// U8 tells a number of 1 byte.
func (r *Reader) U8() int { return tell(r, func() int { return int(r.number(1)) }) }

// U16 tells a number of 2 bytes.
func (r *Reader) U16() int { return tell(r, func() int { return int(r.number(2)) }) }

// U32 tells a number of 4 bytes.
func (r *Reader) U32() int { return tell(r, func() int { return int(r.number(4)) }) }

// U64 tells a number of 8 bytes.
func (r *Reader) U64() uint64 { return tell(r, func() uint64 { return r.number(8) }) }

// I64 tells a number of 8 bytes that may be below 0.
func (r *Reader) I64() int64 { return tell(r, func() int64 { return int64(r.number(8)) }) }

// Hash tells a hash.
func (r *Reader) Hash() api.Hash {
	return tell(r, func() api.Hash {
		var h api.Hash
		copy(h[:], r.next(len(h)))
		return h
	})
}

// Raw tells n bytes as they are.
func (r *Reader) Raw(n int) []byte {
	return tell(r, func() []byte { return bytes.Clone(r.next(n)) })
}

// Text tells a text of at most most bytes.
func (r *Reader) Text(most int) string {
	return tell(r, func() string { return string(r.next(r.upTo(most, 2))) })
}

// Flag tells whether a byte is 1; it must be 1, or 0.
func (r *Reader) Flag() bool { return tell(r, func() bool { return r.upTo(1, 1) == 1 }) }

// Count tells a number of 2 bytes that is at most most.
func (r *Reader) Count(most int) int { return tell(r, func() int { return r.upTo(most, 2) }) }

// Left is how many bytes are left; 0, if it is spoilt.
func (r *Reader) Left() int {
	if !r.tells() {
		return 0
	}
	return len(r.b) - r.at
}

// Spoil spoils it.
func (r *Reader) Spoil() {
	if r.tells() {
		r.spoil()
	}
}

// Err is ErrShape, if it is spoilt.
func (r *Reader) Err() api.Errno {
	switch {
	case r == nil || !r.answered():
		return api.ErrNil
	case r.spoilt:
		return api.ErrShape
	}
	return api.OK
}

// End says whether it is not spoilt, and nothing is left.
func (r *Reader) End() bool { return r.tells() && r.Left() == 0 }

package wire

import (
	"bytes"
	"encoding/hex"
	"math"
	"slices"
	"strconv"
	"strings"
	"testing"

	"moidore/api"
)

// put is a call that puts something.
type put struct {
	name string
	call func(w *Writer)
}

// taken is each call of a writer that puts, with something that it takes.
func taken() []put {
	return []put{
		{"U8", func(w *Writer) { w.U8(7) }},
		{"U16", func(w *Writer) { w.U16(7) }},
		{"U32", func(w *Writer) { w.U32(7) }},
		{"U64", func(w *Writer) { w.U64(7) }},
		{"I64", func(w *Writer) { w.I64(-7) }},
		{"Hash", func(w *Writer) { w.Hash(api.Hash{7}) }},
		{"Raw", func(w *Writer) { w.Raw(7, 8) }},
		{"Raw of none", func(w *Writer) { w.Raw() }},
		{"Text", func(w *Writer) { w.Text("ab") }},
		{"Text of none", func(w *Writer) { w.Text("") }},
		{"Flag", func(w *Writer) { w.Flag(true) }},
		{"Flag false", func(w *Writer) { w.Flag(false) }},
	}
}

// refused is calls that spoil.
func refused() []put {
	l := []put{
		{"Spoil", func(w *Writer) { w.Spoil() }},
		{"Text of 2^16", func(w *Writer) { w.Text(strings.Repeat("a", 1<<16)) }},
		{"Text of 2^16 + 1", func(w *Writer) { w.Text(strings.Repeat("a", 1<<16+1)) }},
		{"Text of 2^17", func(w *Writer) { w.Text(strings.Repeat("a", 1<<17)) }},
		{"Text of 2^24 + 3", func(w *Writer) { w.Text(strings.Repeat("a", 1<<24+3)) }},
	}
	for bits := range 63 {
		for _, by := range []int{-1, 0, 1} {
			n := 1<<bits + by
			for _, n := range []int{n, -n} {
				if n < 0 || n >= 1<<8 {
					l = append(l, put{"U8 " + strconv.Itoa(n), func(w *Writer) { w.U8(n) }})
				}
				if n < 0 || n >= 1<<16 {
					l = append(l, put{"U16 " + strconv.Itoa(n), func(w *Writer) { w.U16(n) }})
				}
				if n < 0 || n >= 1<<32 {
					l = append(l, put{"U32 " + strconv.Itoa(n), func(w *Writer) { w.U32(n) }})
				}
			}
		}
	}
	for _, n := range []int{math.MinInt, math.MinInt + 1, math.MaxInt, math.MaxInt - 1, -1 << 8, -1<<16 + 5, -1<<32 + 5} {
		l = append(l,
			put{"U8 " + strconv.Itoa(n), func(w *Writer) { w.U8(n) }},
			put{"U16 " + strconv.Itoa(n), func(w *Writer) { w.U16(n) }},
			put{"U32 " + strconv.Itoa(n), func(w *Writer) { w.U32(n) }})
	}
	return l
}

// wantPut asks for these bytes, and OK.
func wantPut(t *testing.T, what string, w *Writer, want []byte) {
	t.Helper()
	if b, e := w.Bytes(); e != api.OK || !bytes.Equal(b, want) {
		t.Errorf("%s: %x and %v, not %x", what, b, e, want)
	}
}

// wantNone asks for no bytes, and that error.
func wantNone(t *testing.T, what string, w *Writer, want api.Errno) {
	t.Helper()
	if b, e := w.Bytes(); b != nil || e != want {
		t.Errorf("%s: %x and %v, not %v", what, b, e, want)
	}
}

func unhex(t *testing.T, s string) []byte {
	t.Helper()
	b, err := hex.DecodeString(strings.ReplaceAll(s, " ", ""))
	if err != nil {
		t.Fatal(err)
	}
	return b
}

// P2.1: each call's bytes, the highest first, alone and behind others.
func TestPutBytes(t *testing.T) {
	rising := api.Hash{}
	for i := range rising {
		rising[i] = byte(i + 1)
	}
	for _, c := range []struct {
		name, want string
		call       func(w *Writer)
	}{
		{"U8 0", "00", func(w *Writer) { w.U8(0) }},
		{"U8 1", "01", func(w *Writer) { w.U8(1) }},
		{"U8 128", "80", func(w *Writer) { w.U8(128) }},
		{"U8 255", "ff", func(w *Writer) { w.U8(255) }},
		{"U16 0", "0000", func(w *Writer) { w.U16(0) }},
		{"U16 255", "00ff", func(w *Writer) { w.U16(255) }},
		{"U16 256", "0100", func(w *Writer) { w.U16(256) }},
		{"U16 258", "0102", func(w *Writer) { w.U16(258) }},
		{"U16 65535", "ffff", func(w *Writer) { w.U16(65535) }},
		{"U32 0", "00000000", func(w *Writer) { w.U32(0) }},
		{"U32 65536", "00010000", func(w *Writer) { w.U32(65536) }},
		{"U32 0x01020304", "01020304", func(w *Writer) { w.U32(0x01020304) }},
		{"U32 2^31", "80000000", func(w *Writer) { w.U32(1 << 31) }},
		{"U32 2^32-1", "ffffffff", func(w *Writer) { w.U32(1<<32 - 1) }},
		{"U64 0", "0000000000000000", func(w *Writer) { w.U64(0) }},
		{"U64 2^32", "0000000100000000", func(w *Writer) { w.U64(1 << 32) }},
		{"U64 0x0102..", "0102030405060708", func(w *Writer) { w.U64(0x0102030405060708) }},
		{"U64 2^63", "8000000000000000", func(w *Writer) { w.U64(1 << 63) }},
		{"U64 2^64-1", "ffffffffffffffff", func(w *Writer) { w.U64(math.MaxUint64) }},
		{"I64 0", "0000000000000000", func(w *Writer) { w.I64(0) }},
		{"I64 1", "0000000000000001", func(w *Writer) { w.I64(1) }},
		{"I64 -1", "ffffffffffffffff", func(w *Writer) { w.I64(-1) }},
		{"I64 -2", "fffffffffffffffe", func(w *Writer) { w.I64(-2) }},
		{"I64 -256", "ffffffffffffff00", func(w *Writer) { w.I64(-256) }},
		{"I64 2^63-1", "7fffffffffffffff", func(w *Writer) { w.I64(math.MaxInt64) }},
		{"I64 -2^63", "8000000000000000", func(w *Writer) { w.I64(math.MinInt64) }},
		{"I64 0x0102..", "0102030405060708", func(w *Writer) { w.I64(0x0102030405060708) }},
		{"Hash of noughts", strings.Repeat("00", 32), func(w *Writer) { w.Hash(api.Hash{}) }},
		{"Hash", hex.EncodeToString(rising[:]), func(w *Writer) { w.Hash(rising) }},
		{"Raw of none", "", func(w *Writer) { w.Raw() }},
		{"Raw of nil", "", func(w *Writer) { w.Raw([]byte(nil)...) }},
		{"Raw of an empty list", "", func(w *Writer) { w.Raw([]byte{}...) }},
		{"Raw of one", "09", func(w *Writer) { w.Raw(9) }},
		{"Raw of three", "000aff", func(w *Writer) { w.Raw(0, 10, 255) }},
		{"Text of none", "0000", func(w *Writer) { w.Text("") }},
		{"Text", "00026162", func(w *Writer) { w.Text("ab") }},
		{"Text that is no UTF-8", "000300ff80", func(w *Writer) { w.Text("\x00\xff\x80") }},
		{"Text of bytes, not of runes", "0002c3a9", func(w *Writer) { w.Text("\u00e9") }},
		{"Flag true", "01", func(w *Writer) { w.Flag(true) }},
		{"Flag false", "00", func(w *Writer) { w.Flag(false) }},
	} {
		want := unhex(t, c.want)
		w := NewWriter()
		c.call(w)
		wantPut(t, c.name, w, want)
		c.call(w)
		w.U8(0xee)
		wantPut(t, c.name+" twice, and one more", w, slices.Concat(want, want, []byte{0xee}))
	}
}

// P2.1: all numbers of one and of two bytes, and powers of two of more.
func TestPutEachNumber(t *testing.T) {
	for n := range 1 << 16 {
		w := NewWriter()
		w.U16(n)
		want := []byte{byte(n >> 8), byte(n)}
		if n < 1<<8 {
			w.U8(n)
			want = append(want, byte(n))
		}
		wantPut(t, strconv.Itoa(n), w, want)
	}
	for i := range 64 {
		w := NewWriter()
		w.U64(1 << i)
		w.I64(math.MinInt64 >> i)
		want := make([]byte, 16)
		want[7-i/8] = 1 << (i % 8)
		for j := 63 - i; j < 64; j++ {
			want[15-j/8] |= 1 << (j % 8)
		}
		if i < 32 {
			w.U32(1 << i)
			want = append(want, want[4:8]...)
		}
		wantPut(t, "2^"+strconv.Itoa(i), w, want)
	}
}

// P2.1: many bytes, and the longest text.
func TestPutMany(t *testing.T) {
	many := make([]byte, 1<<20+7)
	for i := range many {
		many[i] = byte(i*7 + i>>8)
	}
	w := NewWriter()
	w.Raw(many...)
	wantPut(t, "Raw of many", w, many)
	for _, n := range []int{1, 255, 256, 257, 1<<16 - 2, 1<<16 - 1} {
		w := NewWriter()
		w.Text(string(many[:n]))
		w.U8(5)
		wantPut(t, "Text of "+strconv.Itoa(n), w, slices.Concat([]byte{byte(n >> 8), byte(n)}, many[:n], []byte{5}))
	}
}

// P2.1: what a call does not take spoils, whatever was put.
func TestPutRefused(t *testing.T) {
	for _, c := range refused() {
		w := NewWriter()
		c.call(w)
		wantNone(t, c.name, w, api.ErrArg)
		w = NewWriter()
		w.Text("there")
		c.call(w)
		wantNone(t, c.name+" behind others", w, api.ErrArg)
	}
}

// P2.1: what is spoilt takes nothing more, and stays so.
func TestPutStaysSpoilt(t *testing.T) {
	for _, c := range refused() {
		w := NewWriter()
		w.U8(1)
		c.call(w)
		for _, p := range taken() {
			p.call(w)
			wantNone(t, p.name+" behind "+c.name, w, api.ErrArg)
		}
		held := len(w.b)
		for _, p := range taken() {
			p.call(w)
		}
		w.Spoil()
		wantNone(t, "all behind "+c.name, w, api.ErrArg)
		if len(w.b) != held {
			t.Errorf("behind %s: %d bytes are held, not %d", c.name, len(w.b), held)
		}
	}
}

// P2.1: what spoils one writer spoils no other one.
func TestPutSpoilsOne(t *testing.T) {
	a, b := NewWriter(), NewWriter()
	b.U8(3)
	a.Spoil()
	b.U8(4)
	wantNone(t, "spoilt", a, api.ErrArg)
	wantPut(t, "the other one", b, []byte{3, 4})
	wantPut(t, "a later one", NewWriter(), nil)
}

// P2.1: Bytes tells all, as often as it is asked, and calls go on behind it.
func TestBytesAgain(t *testing.T) {
	w := NewWriter()
	wantPut(t, "nothing", w, nil)
	wantPut(t, "nothing, again", w, nil)
	w.U16(258)
	wantPut(t, "one number", w, []byte{1, 2})
	wantPut(t, "one number, again", w, []byte{1, 2})
	w.Text("a")
	wantPut(t, "a text behind", w, []byte{1, 2, 0, 1, 'a'})
	w.U8(256)
	wantNone(t, "spoilt", w, api.ErrArg)
	wantNone(t, "spoilt, again", w, api.ErrArg)
}

// R3: Raw changes nothing of what it is given, and does not keep it.
func TestRawLeavesBytes(t *testing.T) {
	all := []byte("what is given, and what stands behind it")
	was := bytes.Clone(all)
	w := NewWriter()
	w.Raw(all[:13]...)
	w.U64(math.MaxUint64)
	w.Raw(all[5:9]...)
	w.Text("more")
	if !bytes.Equal(all, was) {
		t.Error("bytes are changed")
	}
	clear(all)
	wantPut(t, "what was put", w, slices.Concat(was[:13], bytes.Repeat([]byte{255}, 8), was[5:9], []byte("\x00\x04more")))
}

// R3: what Bytes tells is new each time.
func TestBytesAreNew(t *testing.T) {
	w := NewWriter()
	w.Text("abc")
	want := []byte("\x00\x03abc")
	a, _ := w.Bytes()
	b, _ := w.Bytes()
	clear(a[:cap(a)])
	if !bytes.Equal(b, want) {
		t.Error("two answers share memory")
	}
	wantPut(t, "behind a change of what was told", w, want)
	b = append(b, 9, 9, 9)
	w.U8(4)
	clear(a[:cap(a)])
	wantPut(t, "behind a longer one", w, append(want, 4))
	if !bytes.Equal(b, slices.Concat(want, []byte{9, 9, 9})) {
		t.Error("what was told is changed by a later call")
	}
}

// R5: a nil writer, and those that NewWriter did not answer.
func TestNoWriter(t *testing.T) {
	used := NewWriter()
	used.Text("used")
	copied := *used
	spoilt := NewWriter()
	spoilt.Spoil()
	copiedSpoilt := *spoilt
	for _, c := range []struct {
		name string
		w    *Writer
	}{{"nil", nil}, {"zero", &Writer{}}, {"a copy", &copied}, {"a copy of a spoilt one", &copiedSpoilt}} {
		for _, p := range slices.Concat(taken(), refused()) {
			p.call(c.w)
			wantNone(t, c.name+", "+p.name, c.w, api.ErrNil)
		}
	}
	for _, w := range []*Writer{{}, &copied} {
		held := len(w.b)
		for _, p := range taken() {
			p.call(w)
		}
		w.Spoil()
		if len(w.b) != held || w.spoilt {
			t.Error("what is no writer is changed")
		}
	}
	wantPut(t, "the copied one", used, []byte("\x00\x04used"))
	wantNone(t, "the copied one, spoilt", spoilt, api.ErrArg)
}

// R5: a writer stays one, wherever it is handed.
func TestWriterThroughOthers(t *testing.T) {
	type holds struct{ *Writer }
	w := NewWriter()
	h := holds{w}
	again := h
	again.U8(1)
	h.U8(2)
	wantPut(t, "held by another one", w, []byte{1, 2})
}

package wire

import (
	"bytes"
	"math"
	"math/rand"
	"strconv"
	"testing"

	"moidore/api"
)

// thing is something that is put by a call, and told by the same ask.
type thing struct {
	kind int
	n    int // of U8, U16, U32, Count, Flag; how many bytes of Raw, Text
	wide uint64
	b    []byte
}

const kinds = 10

func (x thing) put(w *Writer) {
	switch x.kind {
	case 0:
		w.U8(x.n)
	case 1:
		w.U16(x.n)
	case 2:
		w.U32(x.n)
	case 3:
		w.U64(x.wide)
	case 4:
		w.I64(int64(x.wide))
	case 5:
		w.Hash(api.Hash(x.b))
	case 6:
		w.Raw(x.b...)
	case 7:
		w.Text(string(x.b))
	case 8:
		w.Flag(x.n == 1)
	case 9:
		w.U16(x.n)
	}
}

// told is what the same ask tells; a text, a count may be as great as x's is, or greater by over.
func (x thing) told(r *Reader, over int) thing {
	y := thing{kind: x.kind}
	switch x.kind {
	case 0:
		y.n = r.U8()
	case 1:
		y.n = r.U16()
	case 2:
		y.n = r.U32()
	case 3:
		y.wide = r.U64()
	case 4:
		y.wide = uint64(r.I64())
	case 5:
		h := r.Hash()
		y.b = h[:]
	case 6:
		y.n = x.n
		y.b = r.Raw(x.n)
	case 7:
		y.b = []byte(r.Text(x.n + over))
		y.n = len(y.b)
	case 8:
		if r.Flag() {
			y.n = 1
		}
	case 9:
		y.n = r.Count(x.n + over)
	}
	return y
}

func (x thing) same(y thing) bool {
	return x.kind == y.kind && x.n == y.n && x.wide == y.wide && bytes.Equal(x.b, y.b)
}

// some is a number below most, often one of the ends.
func some(chance *rand.Rand, most int) int {
	switch chance.Intn(5) {
	case 0:
		return 0
	case 1:
		return most - 1
	}
	return chance.Intn(most)
}

// anything is some thing of all kinds.
func anything(chance *rand.Rand) thing {
	x := thing{kind: chance.Intn(kinds)}
	switch x.kind {
	case 0:
		x.n = some(chance, 1<<8)
	case 1, 9:
		x.n = some(chance, 1<<16)
	case 2:
		x.n = some(chance, 1<<32)
	case 3, 4:
		x.wide = []uint64{0, 1, math.MaxUint64, 1 << 63, 1<<63 - 1, chance.Uint64(), chance.Uint64()}[chance.Intn(7)]
	case 5:
		x.b = make([]byte, 32)
		chance.Read(x.b)
	case 6, 7:
		x.n = some(chance, 40)
		x.b = make([]byte, x.n)
		chance.Read(x.b)
	case 8:
		x.n = chance.Intn(2)
	}
	return x
}

func putAll(t *testing.T, things []thing) []byte {
	t.Helper()
	w := NewWriter()
	for _, x := range things {
		x.put(w)
	}
	b, e := w.Bytes()
	if e != api.OK {
		t.Fatal(e)
	}
	return b
}

// P2.4: what is put by some calls is told by the same asks, to the end; with a byte more this is left, with a byte less the asks are not met.
func TestPutIsTold(t *testing.T) {
	chance := rand.New(rand.NewSource(2))
	for i := range 20000 {
		things := make([]thing, chance.Intn(12))
		for j := range things {
			things[j] = anything(chance)
		}
		b := putAll(t, things)
		over := chance.Intn(3)
		for _, more := range [][]byte{nil, {0}, {1}, {255}} {
			r := NewReader(append(bytes.Clone(b), more...))
			for j, x := range things {
				if y := x.told(r, over); !x.same(y) {
					t.Fatalf("the %d-th row, the %d-th thing: %v, not %v", i, j, y, x)
				}
			}
			if r.Err() != api.OK || r.Left() != len(more) || r.End() != (len(more) == 0) {
				t.Fatalf("the %d-th row: %v, %d left, end %v", i, r.Err(), r.Left(), r.End())
			}
		}
		if len(b) == 0 {
			continue
		}
		r := NewReader(b[:len(b)-1])
		for _, x := range things {
			x.told(r, over)
		}
		if r.Err() != api.ErrShape || r.Left() != 0 || r.End() {
			t.Fatalf("the %d-th row, cut: %v, %d left, end %v", i, r.Err(), r.Left(), r.End())
		}
	}
}

// P2.4: bytes of which some asks tell all are those that the same calls put.
func TestToldIsPut(t *testing.T) {
	chance := rand.New(rand.NewSource(3))
	ends := 0
	for i := range 200000 {
		b := make([]byte, chance.Intn(14))
		for j := range b {
			b[j] = []byte{0, 0, 0, 1, 2, 255, byte(chance.Intn(256))}[chance.Intn(7)]
		}
		r := NewReader(b)
		var things []thing
		for !r.End() && r.Err() == api.OK {
			x := anything(chance)
			if x.kind == 6 {
				x.n %= 4
			}
			things = append(things, x.told(r, 0))
		}
		if !r.End() {
			continue
		}
		ends++
		if again := putAll(t, things); !bytes.Equal(again, b) {
			t.Fatalf("the %d-th row: %x is put as %x", i, b, again)
		}
	}
	if ends < 10000 {
		t.Errorf("just %d rows were told to their ends", ends)
	}
}

// P2.4: of all rows of up to two bytes, whatever is told of them to the end is put as they are.
func TestEachShortRow(t *testing.T) {
	rows := [][]byte{{}}
	for a := range 256 {
		rows = append(rows, []byte{byte(a)})
		for b := range 256 {
			rows = append(rows, []byte{byte(a), byte(b)})
		}
	}
	patterns := [][]thing{{}, {{kind: 0}}, {{kind: 8}}, {{kind: 0}, {kind: 0}}, {{kind: 8}, {kind: 8}}, {{kind: 0}, {kind: 8}}, {{kind: 8}, {kind: 0}}, {{kind: 1}}, {{kind: 9, n: 300}}, {{kind: 7, n: 300}}, {{kind: 6, n: 2}}, {{kind: 6, n: 1}, {kind: 8}}}
	for _, b := range rows {
		for i, p := range patterns {
			r := NewReader(b)
			var things []thing
			for _, x := range p {
				things = append(things, x.told(r, 0))
			}
			if r.End() && !bytes.Equal(putAll(t, things), b) {
				t.Errorf("%x by the %d-th pattern", b, i)
			}
		}
	}
}

// The chapter's example.
func TestExample(t *testing.T) {
	w := NewWriter()
	w.U16(258)
	w.Text("ab")
	w.Flag(true)
	wantPut(t, "the example", w, []byte{1, 2, 0, 2, 0x61, 0x62, 1})
	b, _ := w.Bytes()
	r := NewReader(b)
	if n, s, is := r.Count(258), r.Text(2), r.Flag(); n != 258 || s != "ab" || !is || !r.End() || r.Err() != api.OK {
		t.Error(n, s, is, r.End(), r.Err())
	}
	r = NewReader(b)
	if n := r.Count(257); n != 0 || r.Err() != api.ErrShape || r.End() || r.Left() != 0 || r.Text(2) != "" || r.Flag() {
		t.Error("Count(257) does not spoil: " + strconv.Itoa(n))
	}
}

// R4: the same is told each time.
func TestAlike(t *testing.T) {
	for i := range 50 {
		chance := rand.New(rand.NewSource(int64(i)))
		things := []thing{anything(chance), anything(chance), anything(chance)}
		if !bytes.Equal(putAll(t, things), putAll(t, things)) {
			t.Error(i)
		}
	}
}

// P2.4: a row of 2^20 numbers.
func TestManyCalls(t *testing.T) {
	w := NewWriter()
	for i := range 1 << 20 {
		w.U8(i & 255)
	}
	b, e := w.Bytes()
	if e != api.OK || len(b) != 1<<20 {
		t.Fatal(len(b), e)
	}
	r := NewReader(b)
	for i := range 1 << 20 {
		if r.U8() != i&255 {
			t.Fatal(i)
		}
	}
	if !r.End() {
		t.Error("not at the end")
	}
}

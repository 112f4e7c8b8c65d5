package block

import (
	"bytes"
	"fmt"
	"slices"
	"testing"

	"moidore/api"
	"moidore/sum"
	"moidore/wire"
)

// wantHash wants a hash and true, or zero and false.
func wantHash(t *testing.T, name string, got api.Hash, is bool, want api.Hash, right bool) {
	t.Helper()
	if !right {
		want = api.Hash{}
	}
	if got != want || is != right {
		t.Errorf("%s: %x, %t, not %x, %t", name, got, is, want, right)
	}
}

// wantHeader wants Id, PutHeader, and Right and Put of a block of it, to tell whether a header is right.
func wantHeader(t *testing.T, name string, x api.Header, right bool) {
	t.Helper()
	if isHeader(x) != right {
		t.Fatalf("%s: no such header", name)
	}
	id, is := Id(x)
	wantHash(t, name+", the id", id, is, sum.Of(headerBytes(x)), right)
	want, e := headerBytes(x), api.OK
	if !right {
		want, e = nil, api.ErrArg
	}
	if b, err := bytesPut(func(w *wire.Writer) { PutHeader(w, x) }); !bytes.Equal(b, want) || err != e {
		t.Errorf("%s, put: %x, %d, not %x, %d", name, b, err, want, e)
	}
	wantBlock(t, name+", of no transactions", api.Block{Header: x}, right)
	wantBlock(t, name+", of some", api.Block{Header: x, Txs: row(4)}, right)
}

// wantBlock wants Right and Put to tell whether a block is right, and what its bytes are.
func wantBlock(t *testing.T, name string, x api.Block, right bool) {
	t.Helper()
	if isBlock(x) != right {
		t.Fatalf("%s: no such block", name)
	}
	if Right(x) != right {
		t.Errorf("%s: Right is not %t", name, right)
	}
	var want []byte
	if right {
		want = blockBytes(x)
	}
	if b, is := Put(x); !bytes.Equal(b, want) || is != right || (b == nil) == right {
		t.Errorf("%s: %d bytes, %t, not %d, %t", name, len(b), is, len(want), right)
	}
}

// wantRoot wants a row's root to be that of the hashes of their bytes, or none.
func wantRoot(t *testing.T, name string, l []api.Tx, right bool) {
	t.Helper()
	if areTxs(l) != right {
		t.Fatalf("%s: no such row", name)
	}
	var hashes []api.Hash
	for _, x := range l {
		hashes = append(hashes, sum.Of(txBytes(x)))
	}
	root, is := Root(l...)
	wantHash(t, name+", the root", root, is, sum.Root(hashes...), right)
}

// P12.1, P12.2: each bound of a header, at its end and one beyond, and far beyond.
func TestHeader(t *testing.T) {
	t.Parallel()
	heights := map[int]bool{
		least: false, -1 << 32: false, -1 << 31: false, -2: false, -1: false, 0: true, 1: true, 1<<31 - 2: true, 1<<31 - 1: true,
		1 << 31: false, 1<<31 + 1: false, 1<<32 - 1: false, 1 << 32: false, 1<<32 + 1: false, most: false,
	}
	slots := map[int64]bool{
		least: false, -1 << 40: false, -2: false, -1: false, 0: true, 1: true, 1<<40 - 1: true, 1 << 40: true,
		1<<40 + 1: false, 1<<40 + 2: false, 1 << 41: false, most: false,
	}
	for height, is := range heights {
		for slot, may := range slots {
			for _, x := range []api.Header{{}, someHeader()} {
				x.Height, x.Slot = height, slot
				wantHeader(t, fmt.Sprintf("the height %d, the slot %d", height, slot), x, is && may)
			}
		}
	}
}

// P12.1: whatever the parent, the root and the nonce are, a header may be right.
func TestHeaderParts(t *testing.T) {
	t.Parallel()
	var all api.Hash
	for i := range all {
		all[i] = 0xff
	}
	for _, hash := range []api.Hash{{}, h(1, 0), h(0, 1), all} {
		for _, nonce := range []uint64{0, 1, 1 << 63, 1<<64 - 1} {
			wantHeader(t, "a header", api.Header{Parent: hash, Nonce: nonce}, true)
			wantHeader(t, "a header", api.Header{Root: hash, Nonce: nonce}, true)
		}
	}
}

// P12.1: the id of a header whose bytes are written down by hand.
func TestId(t *testing.T) {
	t.Parallel()
	id, is := Id(someHeader())
	wantHash(t, "some header", id, is, sum.Of(someHeaderBytes()), true)
	id, is = Id(api.Header{Height: 1<<31 - 1, Slot: 1 << 40, Nonce: 1})
	want := sum.Of(slices.Concat(make([]byte, 32), unhex("7fffffff 0000010000000000"), make([]byte, 32), unhex("0000000000000001")))
	wantHash(t, "the ends", id, is, want, true)
}

// P12.1: rows of as many transactions as may be, of more, and of as many more as two bytes do not tell.
func TestRows(t *testing.T) {
	t.Parallel()
	for _, n := range []int{0, 1, 2, 3, 4, 5, 29, 30, 31, 32, 60, 255, 256, 257, 65535, 65536, 65537, 65566} {
		name := fmt.Sprintf("%d transactions", n)
		l := make([]api.Tx, n)
		wantBlock(t, name, api.Block{Header: someHeader(), Txs: l}, n <= 30)
		wantRoot(t, name, l, n <= 30)
		if n > 60 {
			continue
		}
		l = row(n)
		wantBlock(t, name+", unlike ones", api.Block{Txs: l}, n <= 30)
		wantRoot(t, name+", unlike ones", l, n <= 30)
	}
}

// P12.1: the roots of rows of 0, 1, 2 and 3 transactions, put together by hand. Each counts with all its bytes, not with its id.
func TestRoot(t *testing.T) {
	t.Parallel()
	valid, not, none := full(), full(), api.Tx{}
	not.Valid = false
	b := fullBytes()
	x, y, z := sum.Of(b), sum.Of(b[:len(b)-1], []byte{0}), sum.Of(make([]byte, 75))
	one := func(a api.Hash) []byte { l := sum.Of([]byte{1}, a[:]); return l[:] }
	for i, want := range []api.Hash{
		sum.Of([]byte{0}),
		sum.Of([]byte{1}, x[:]),
		sum.Of([]byte{2}, one(x), one(y)),
	} {
		root, is := Root([]api.Tx{valid, not}[:i]...)
		wantHash(t, fmt.Sprintf("%d transactions", i), root, is, want, true)
	}
	two := sum.Of([]byte{2}, one(z), one(y))
	root, is := Root(none, not, valid)
	wantHash(t, "three", root, is, sum.Of([]byte{2}, two[:], one(x)), true)
}

// P12.1: one that is not right, of each sort, in each place.
func TestWrongTx(t *testing.T) {
	t.Parallel()
	for name, x := range wrongTxs() {
		for _, n := range []int{1, 2, 3, 30} {
			for i := range n {
				if n == 30 && name != "the Fee -1 alone" && i%29 != 0 {
					continue
				}
				l := row(n)
				l[i] = x
				name := fmt.Sprintf("%s, the one at %d of %d", name, i, n)
				wantBlock(t, name, api.Block{Header: someHeader(), Txs: l}, false)
				wantRoot(t, name, l, false)
				id, is := Id(someHeader())
				wantHash(t, name+", the id", id, is, sum.Of(someHeaderBytes()), true)
			}
		}
	}
}

// P12.1: 31 transactions, one of which is not right, in each place; and all of which are not.
func TestWrongMany(t *testing.T) {
	t.Parallel()
	wrong := api.Tx{Body: api.Body{Fee: -1}}
	for i := range 31 {
		l := row(31)
		l[i] = wrong
		wantBlock(t, "31", api.Block{Txs: l}, false)
		wantRoot(t, "31", l, false)
	}
	for _, n := range []int{1, 30, 31, 65536} {
		l := slices.Repeat([]api.Tx{wrong}, n)
		wantBlock(t, "wrong ones", api.Block{Txs: l}, false)
		wantRoot(t, "wrong ones", l, false)
	}
}

// P12.1: blocks of 2^18 bytes, of fewer, and of more. A root hangs on no bound of all bytes.
func TestBytes(t *testing.T) {
	t.Parallel()
	for _, txs := range []int{1, 2, 3, 30} {
		for _, n := range []int{1<<18 - 2, 1<<18 - 1, 1 << 18, 1<<18 + 1, 1<<18 + 2} {
			name := fmt.Sprintf("%d bytes, %d transactions", n, txs)
			x := longBlock(txs, n)
			if b := blockBytes(x); len(b) != n || len(x.Txs) != txs {
				t.Fatalf("%s: %d bytes", name, len(b))
			}
			wantBlock(t, name, x, n <= 1<<18)
			wantRoot(t, name, x.Txs, true)
			x.Header.Slot = -1
			wantBlock(t, name+", and the slot -1", x, false)
		}
	}
	for _, txs := range []int{1, 2, 30} {
		x := longBlock(txs, 86+txs<<18)
		wantBlock(t, "each as long as may be", x, false)
		wantRoot(t, "each as long as may be", x.Txs, true)
	}
}

// P12.1: an id whose first bit that is not 0 stands at each place, alone, with all bits behind it, and with some; and the one of noughts alone.
func TestSealed(t *testing.T) {
	t.Parallel()
	works := []int{least, least + 1, -1 << 32, -256, most, most - 1, 1 << 32, 1<<32 + 1, 512}
	for n := -1; n <= 257; n++ {
		works = append(works, n)
	}
	for first := range 257 {
		for _, behind := range []byte{0, 0xff, 0x55, 0xaa} {
			var id api.Hash
			for i := first; i < 256; i++ {
				if bit := byte(128 >> (i % 8)); i == first || behind&bit != 0 {
					id[i/8] |= bit
				}
			}
			for _, work := range works {
				if is := Sealed(id, work); is != (work <= first) {
					t.Errorf("%x, sealed with %d: %t", id, work, is)
				}
			}
		}
	}
}

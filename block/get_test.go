package block

import (
	"bytes"
	"encoding/binary"
	"fmt"
	"math/rand"
	"slices"
	"testing"

	"moidore/api"
	"moidore/wire"
)

// wantGot wants what Get tells of bytes to be what the chapter's words say of them, and that there is one way to write it. It says whether Get tells a block.
func wantGot(t *testing.T, name string, b []byte) bool {
	t.Helper()
	want, right := blockOf(b)
	x, is := Get(b)
	if !same(x, want) || is != right {
		t.Errorf("%s: %s, %t, not %s, %t", name, short(x), is, short(want), right)
	}
	if again, may := Put(x); is && (!bytes.Equal(again, b) || !may) {
		t.Errorf("%s: another way to write it: %x", name, b)
	}
	return is
}

// wantNone wants that bytes are no right block's.
func wantNone(t *testing.T, name string, b []byte) {
	t.Helper()
	if wantGot(t, name, b) {
		t.Errorf("%s: there is such a block", name)
	}
}

// wantNext wants GetHeader to tell a right header of what stands next, or a zero one, and the reader spoilt.
func wantNext(t *testing.T, name string, b []byte) {
	t.Helper()
	want, e, left := api.Header{}, api.ErrShape, 0
	if len(b) >= 84 && isHeader(headerOf(b)) {
		want, e, left = headerOf(b), api.OK, len(b)-84
	}
	r := wire.NewReader(b)
	if x := GetHeader(r); x != want || r.Err() != e || r.Left() != left || r.End() != (e == api.OK && left == 0) {
		t.Errorf("%s: %s, %d, %d left, not %s, %d, %d", name, short(x), r.Err(), r.Left(), short(want), e, left)
	}
}

// P12.2: cut at each byte there is no block, nor with more behind.
func TestCut(t *testing.T) {
	t.Parallel()
	for _, b := range [][]byte{make([]byte, 86), someBlockBytes(), blockBytes(api.Block{Txs: row(6)})} {
		if !wantGot(t, "whole", b) {
			t.Errorf("%x is no block", b)
		}
		for n := range b {
			wantNone(t, "cut", b[:n])
		}
		for _, more := range [][]byte{{0}, {1}, {255}, make([]byte, 75), make([]byte, 100), b} {
			wantNone(t, "more behind", slices.Concat(b, more))
			wantNone(t, "more ahead", slices.Concat(more, b))
		}
	}
	wantNone(t, "no bytes", []byte{})
	wantNone(t, "nil", nil)
}

// P12.2: each byte turned: in all ways, those of a long block, but for its number of transactions, in three.
func TestTurned(t *testing.T) {
	t.Parallel()
	got := map[bool]int{}
	for _, b := range [][]byte{make([]byte, 86), make([]byte, 86+75), append(someHeaderBytes(), 0, 0), someBlockBytes()} {
		if len(b) == 86+75 {
			b[85] = 1
		}
		for i := range b {
			for by := range 255 {
				if all := len(b) < 200 || i == 84 || i == 85; !all && by != 0 && by != 127 && by != 254 {
					continue
				}
				c := slices.Clone(b)
				c[i] ^= byte(by + 1)
				got[wantGot(t, fmt.Sprintf("the byte %d turned by %d", i, by+1), c)]++
			}
		}
	}
	if got[true] == 0 || got[false] == 0 {
		t.Errorf("%d were right, %d not", got[true], got[false])
	}
}

// P12.2: numbers of transactions that say more than there is, or less, with nothing, transactions of noughts, ones and all bits behind.
func TestCounts(t *testing.T) {
	t.Parallel()
	for _, n := range []int{0, 1, 2, 3, 29, 30, 31, 32, 60, 255, 256, 257, 286, 32768, 65535} {
		for _, there := range []int{0, 1, 2, 29, 30, 31, 60, 1000} {
			b := slices.Concat(someHeaderBytes(), []byte{byte(n >> 8), byte(n)}, make([]byte, 75*there))
			if is := wantGot(t, "a number", b); is != (n == there && n <= 30) {
				t.Errorf("%d said, %d there: %t", n, there, is)
			}
		}
		for _, more := range [][]byte{bytes.Repeat([]byte{1}, 1<<18), bytes.Repeat([]byte{255}, 1<<18), bytes.Repeat([]byte{0, 1}, 1<<17)} {
			for _, m := range []int{75, 75 * 30, 1<<18 - 86, 1 << 18} {
				wantGot(t, "a number, and others behind", slices.Concat(someHeaderBytes(), []byte{byte(n >> 8), byte(n)}, more[:m]))
			}
		}
	}
}

// P12.2: a header's numbers that may not be, as far as bytes can say them.
func TestWrongHeader(t *testing.T) {
	t.Parallel()
	for _, height := range []uint32{0, 1, 1<<31 - 1, 1 << 31, 1<<31 + 1, 1<<32 - 1} {
		for _, slot := range []uint64{0, 1, 1 << 40, 1<<40 + 1, 1 << 41, 1<<63 - 1, 1 << 63, 1<<64 - 1} {
			b := someHeaderBytes()
			binary.BigEndian.PutUint32(b[32:], height)
			binary.BigEndian.PutUint64(b[36:], slot)
			right := height < 1<<31 && slot <= 1<<40
			wantNext(t, "a header", b)
			for _, behind := range [][]byte{{0, 0}, append([]byte{0, 1}, fullBytes()...)} {
				c := slices.Concat(b, behind)
				wantNext(t, "a header ahead of others", c)
				if is := wantGot(t, "a block", c); is != right {
					t.Errorf("the height %d, the slot %d: %t", height, slot, is)
				}
			}
		}
	}
}

// P12.2: transactions that are not right, in each place.
func TestWrongBytes(t *testing.T) {
	t.Parallel()
	fee := make([]byte, 75)
	fee[8] = 0x80
	flag := make([]byte, 75)
	flag[74] = 2
	purpose := fullBytes()
	purpose[len(purpose)-29] = 3
	for name, wrong := range map[string][]byte{"the Fee": fee, "the flag": flag, "the Purpose": purpose, "no bytes": nil, "a byte too few": make([]byte, 74), "too long": txBytesOf(1<<18 + 1)} {
		for i := range 30 {
			b := append(someHeaderBytes(), 0, 30)
			for j := range 30 {
				if i == j {
					b = append(b, wrong...)
				} else {
					b = append(b, fullBytes()...)
				}
			}
			wantNone(t, fmt.Sprintf("%s of the one at %d", name, i), b)
		}
	}
}

// txBytesOf is a transaction's bytes that are right but for how many they are.
func txBytesOf(n int) []byte {
	b := txBytes(txOf(n - 1120))
	b[67] = 1
	return slices.Concat(b[:68], make([]byte, 1120), b[68:])
}

// P12.2: blocks of just 2^18 bytes, of fewer, of more, and of many more, each of whose transactions is right.
func TestGetBytes(t *testing.T) {
	t.Parallel()
	for _, txs := range []int{1, 2, 3, 30} {
		for _, n := range []int{1<<18 - 2, 1<<18 - 1, 1 << 18, 1<<18 + 1, 1<<18 + 2} {
			if is := wantGot(t, "many bytes", blockBytes(longBlock(txs, n))); is != (n <= 1<<18) {
				t.Errorf("%d bytes of %d transactions: %t", n, txs, is)
			}
		}
		wantNone(t, "each as long as may be", blockBytes(longBlock(txs, 86+txs<<18)))
	}
	for _, b := range [][]byte{make([]byte, 1<<22), bytes.Repeat([]byte{255}, 1<<22), bytes.Repeat([]byte{0, 1}, 1<<21), bytes.Repeat([]byte{0, 30}, 1<<21)} {
		wantNone(t, "very many bytes", b)
		wantNone(t, "very many bytes behind a header", slices.Concat(someHeaderBytes(), b))
		wantNone(t, "very many bytes behind a block", slices.Concat(someBlockBytes(), b))
	}
}

// P12.2: headers amid others: GetHeader takes just their bytes.
func TestGetHeader(t *testing.T) {
	t.Parallel()
	r := wire.NewReader(slices.Concat(unhex("1234"), someHeaderBytes(), unhex("00017a"), make([]byte, 84), someHeaderBytes(), unhex("05")))
	n, x, s, y, z, last := r.U16(), GetHeader(r), r.Text(1), GetHeader(r), GetHeader(r), r.U8()
	if n != 0x1234 || x != someHeader() || s != "z" || !zero(y) || z != someHeader() || last != 5 || !r.End() {
		t.Errorf("%x, %s, %s, %s, %s, %d, %d", n, short(x), s, short(y), short(z), last, r.Err())
	}
}

// P12.2: headers cut at each byte, and with each byte turned: the reader is spoilt, and stays so, where there is none.
func TestHeaderBytes(t *testing.T) {
	t.Parallel()
	for _, b := range [][]byte{make([]byte, 84), someHeaderBytes(), headerBytes(api.Header{Height: 1<<31 - 1, Slot: 1 << 40})} {
		for i := range b {
			wantNext(t, "cut", b[:i])
			for by := range 255 {
				c := slices.Clone(b)
				c[i] ^= byte(by + 1)
				wantNext(t, "turned", c)
				wantNext(t, "turned, and more behind", append(c, 7, 8))
			}
			r := wire.NewReader(b[:i])
			if x := GetHeader(r); !zero(x) || r.Err() != api.ErrShape {
				t.Errorf("cut at %d: %s, %d", i, short(x), r.Err())
			}
			if x := GetHeader(r); !zero(x) || r.U8() != 0 || r.Left() != 0 || r.End() {
				t.Errorf("cut at %d: it is not spoilt: %s", i, short(x))
			}
		}
	}
	r := wire.NewReader(slices.Concat(headerBytes(api.Header{Slot: -1}), make([]byte, 84)))
	if x, y := GetHeader(r), GetHeader(r); !zero(x) || !zero(y) || r.Err() != api.ErrShape {
		t.Errorf("behind a wrong one: %s, %s, %d", short(x), short(y), r.Err())
	}
}

// spoilt is bytes one of which is another one, goes, or is new; or some of which stand there twice.
func spoilt(r *rand.Rand, b []byte) []byte {
	i := r.Intn(len(b) + 1)
	switch k := min(len(b), i+r.Intn(100)); r.Intn(4) {
	case 0:
		return slices.Concat(b[:i], b[k:])
	case 1:
		return slices.Concat(b[:i], []byte{byte(r.Intn(256))}, b[i:])
	case 2:
		return slices.Concat(b[:k], b[i:])
	}
	c := slices.Clone(b)
	if i < len(b) {
		c[i] = byte(r.Intn(256))
	}
	return c
}

// P12.2: bytes that came about by chance.
func TestAnyBytes(t *testing.T) {
	t.Parallel()
	r := rand.New(rand.NewSource(1201))
	got := map[bool]int{}
	for range 600 {
		b := blockBytes(anyBlock(r))
		for range r.Intn(3) {
			b = spoilt(r, b)
		}
		got[wantGot(t, "any bytes", b)]++
		wantNext(t, "any bytes", b)
		c := make([]byte, r.Intn(400))
		r.Read(c)
		got[wantGot(t, "any few bytes", c)]++
		wantNext(t, "any few bytes", c)
		c = make([]byte, 86+75*r.Intn(4)+r.Intn(2))
		c[85] = byte(r.Intn(4))
		for range r.Intn(4) {
			c[r.Intn(len(c))] = []byte{1, 2, 30, byte(r.Intn(256))}[r.Intn(4)]
		}
		got[wantGot(t, "few bytes that are not 0", c)]++
	}
	if got[true] == 0 || got[false] == 0 {
		t.Errorf("%d were right, %d not", got[true], got[false])
	}
}

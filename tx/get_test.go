package tx

import (
	"bytes"
	"math/rand"
	"slices"
	"strings"
	"testing"

	"moidore/api"
	"moidore/wire"
)

// wantGot wants what Get and GetTx tell of bytes to be what the chapter's words say of them: the right transaction whose bytes they are, or that stands next; else a zero one, and the reader spoilt. It says whether Get tells one.
func wantGot(t *testing.T, name string, b []byte) bool {
	t.Helper()
	p := &plain{b: b}
	want := p.tx()
	there := !p.bad && isTx(want)
	if !there {
		want = api.Tx{}
	}
	wantNext(t, name, b, want, there, len(p.b))
	whole := there && len(p.b) == 0
	if !whole {
		want = api.Tx{}
	}
	if got, is := Get(b); !same(got, want) || is != whole {
		t.Errorf("%s: %s, %t, not %s", name, short(got), is, short(want))
	}
	if again, is := Put(want); whole && (!bytes.Equal(again, b) || !is) {
		t.Errorf("%s: another way to write it: %x", name, b)
	}
	return whole
}

// wantNext wants GetTx to tell what stands next, and to leave so many bytes.
func wantNext(t *testing.T, name string, b []byte, want api.Tx, there bool, left int) {
	t.Helper()
	e := api.OK
	if !there {
		e, left = api.ErrShape, 0
	}
	r := wire.NewReader(b)
	if got := GetTx(r); !same(got, want) || r.Err() != e || r.Left() != left {
		t.Errorf("%s: next %s, not %s: %d, %d left, not %d", name, short(got), short(want), r.Err(), r.Left(), left)
	}
}

// P11.2: what was put is told, with nothing behind it by Get, and with whatever behind it by GetTx, which takes just its bytes.
func TestGet(t *testing.T) {
	t.Parallel()
	for _, x := range rightBends() {
		want := x.bent()
		b := txBytes(want)
		if got, is := Get(b); !same(got, want) || !is {
			t.Errorf("%s: %s, %t", x.name, short(got), is)
		}
		for _, more := range [][]byte{{0}, {255}, make([]byte, 100), b} {
			if got, is := Get(slices.Concat(b, more)); !zero(got) || is {
				t.Errorf("%s, and %d bytes behind it: %s, %t", x.name, len(more), short(got), is)
			}
			r := wire.NewReader(slices.Concat([]byte{9, 9, 9}, b, more))
			r.Raw(3)
			if got := GetTx(r); !same(got, want) || r.Err() != api.OK {
				t.Errorf("%s, and %d bytes behind it: next %s, %d", x.name, len(more), short(got), r.Err())
			}
			if !bytes.Equal(r.Raw(len(more)), more) || !r.End() {
				t.Errorf("%s: the %d bytes behind it were taken", x.name, len(more))
			}
		}
	}
}

// P11.2: cut at each byte there is no transaction.
func TestCut(t *testing.T) {
	t.Parallel()
	for _, x := range []api.Tx{{}, full(), padded(api.Tx{}, 4000)} {
		b := txBytes(x)
		for n := range b {
			if got, is := Get(b[:n]); !zero(got) || is {
				t.Errorf("cut at %d: %s, %t", n, short(got), is)
			}
			r := wire.NewReader(b[:n])
			if got := GetTx(r); !zero(got) || r.Err() != api.ErrShape || r.End() {
				t.Errorf("cut at %d: next %s, %d", n, short(got), r.Err())
			}
			if r.U8() != 0 || r.Left() != 0 || !zero(GetTx(r)) {
				t.Errorf("cut at %d: it is not spoilt", n)
			}
		}
	}
}

// P11.2: each byte turned, in each bit alone, and in all.
func TestTurned(t *testing.T) {
	t.Parallel()
	got := map[bool]int{}
	for _, b := range [][]byte{make([]byte, 75), fullBytes()} {
		for i := range b {
			for _, by := range []byte{1, 2, 4, 8, 0x10, 0x20, 0x40, 0x80, 0xff} {
				c := slices.Clone(b)
				c[i] ^= by
				got[wantGot(t, "turned", c)]++
			}
		}
	}
	if got[true] == 0 || got[false] == 0 {
		t.Errorf("%d were right, %d not", got[true], got[false])
	}
}

// P11.2: each byte of a transaction without signatures, with others in its place: all that are low, as counts, kinds and Ops are, and the ends.
func TestEachByte(t *testing.T) {
	t.Parallel()
	x := full()
	x.Signatures = nil
	x.Body.Outputs = x.Body.Outputs[1:]
	x.Body.Collateral = nil
	b := txBytes(x)
	for i := range b {
		for n := range byte(72) {
			c := slices.Clone(b)
			c[i] = n + 252
			wantGot(t, "each byte", c)
		}
	}
}

// P11.2: bytes of transactions that are not right, as far as bytes can say what they are.
func TestWrongGet(t *testing.T) {
	t.Parallel()
	for _, x := range wrongBends() {
		y := x.bent()
		wantGot(t, x.name, txBytes(y))
		wantGot(t, x.name, slices.Concat(txBytes(y), make([]byte, 50)))
	}
}

// P11.2: bytes that are written down by hand, and are no right transaction's.
func TestRaw(t *testing.T) {
	t.Parallel()
	noughts := func(n int) string { return strings.Repeat("00", n) }
	body, none := noughts(66), noughts(6)
	budget := noughts(16)
	for name, s := range map[string]string{
		"no bytes": "", "a body alone": body, "without a flag": noughts(74), "one more": noughts(76), "the flag 2": noughts(74) + "02", "the flag 255": noughts(74) + "ff",
		"31 Inputs": "001f" + strings.Repeat(noughts(34), 31) + noughts(73), "31 Collateral": "0000 001f" + strings.Repeat(noughts(34), 31) + noughts(71),
		"2 Returns": "0000 0000 0002" + noughts(88) + noughts(69), "31 Outputs": "0000 0000 0000 001f" + strings.Repeat(noughts(44), 31) + noughts(67),
		"the Place 31":           "0001" + noughts(32) + "001f" + noughts(73),
		"the Fee -1":             noughts(8) + "ffffffffffffffff" + noughts(59),
		"From -1":                noughts(16) + "ffffffffffffffff" + noughts(51),
		"From 2^40 + 1":          noughts(16) + "0000010000000001" + noughts(51),
		"To -2":                  noughts(24) + "fffffffffffffffe" + noughts(43),
		"To 2^40 + 1":            noughts(24) + "0000010000000001" + noughts(43),
		"Mint of 0":              noughts(32) + "0001" + noughts(32) + "0000" + noughts(8) + noughts(41),
		"61 Signatures":          body + "003d" + strings.Repeat(noughts(1120), 61) + none + "00",
		"one of 34 hashes":       body + "0001" + noughts(1088) + none + "00",
		"one of 36 hashes":       body + "0001" + noughts(1152) + none + "00",
		"11 Programs":            body + "0000 000b" + strings.Repeat("00 0001 31", 11) + "0000 0000 00",
		"an empty program":       body + "0000 0001 00 0000" + "0000 0000 00",
		"11 Terms":               body + "0000 0000 000b" + strings.Repeat("04 0000", 11) + "0000 00",
		"kind 7":                 body + "0000 0000 0001 07 0000" + "0000 00",
		"61 Redeemers":           body + "0000 0000 0000 003d" + strings.Repeat("01 0000 04 0000"+budget, 61) + "00",
		"Purpose 0":              body + "0000 0000 0000 0001 00 0000 04 0000" + budget + "00",
		"Purpose 3":              body + "0000 0000 0000 0001 03 0000 04 0000" + budget + "00",
		"a redeemer's kind 0":    body + "0000 0000 0000 0001 01 0000 00 0000" + budget + "00",
		"-1 Steps":               body + "0000 0000 0000 0001 01 0000 04 0000 ffffffffffffffff 0000000000000000 00",
		"2^20 + 1 Steps":         body + "0000 0000 0000 0001 01 0000 04 0000 0000000000100001 0000000000000000 00",
		"-1 Memory":              body + "0000 0000 0000 0001 01 0000 04 0000 0000000000000000 ffffffffffffffff 00",
		"2^20 + 1 Memory":        body + "0000 0000 0000 0001 01 0000 04 0000 0000000000000000 0000000000100001 00",
		"a redeemer, half of it": body + "0000 0000 0000 0001 01 0000 04 0000 0000000000000000 00000000 00",
	} {
		b := unhex(s)
		if got, is := Get(b); !zero(got) || is {
			t.Errorf("%s: %s, %t", name, short(got), is)
		}
		if wantGot(t, name, b) {
			t.Errorf("%s: there is such a transaction", name)
		}
	}
}

// P11.2: counts that say more than there is, of each row, with nothing, noughts, ones and all bits behind.
func TestCounts(t *testing.T) {
	t.Parallel()
	for _, at := range []int{0, 2, 4, 6, 32, 66, 68, 70, 72} {
		for _, n := range []int{1, 2, 10, 11, 30, 31, 60, 61, 255, 256, 65535} {
			for _, more := range [][]byte{nil, make([]byte, 1<<17), bytes.Repeat([]byte{1}, 1<<17), bytes.Repeat([]byte{255}, 1<<17)} {
				b := slices.Concat(make([]byte, at), u16(n), make([]byte, 73-at), more)
				wantGot(t, "a count", b)
				wantGot(t, "a count, and just those behind it", slices.Concat(b[:at+2], more))
			}
		}
	}
}

// P11.2: bytes of just 2^18, of one fewer, of one more, and of many more; nothing ahead of them or behind them counts.
func TestGetBytes(t *testing.T) {
	t.Parallel()
	for _, from := range []api.Tx{{}, full(), {Valid: true, Signatures: many(60, sig(1, 35))}} {
		for _, n := range []int{1<<18 - 2, 1<<18 - 1, 1 << 18, 1<<18 + 1, 1<<18 + 2, 1 << 19} {
			x := padded(from, n)
			b := txBytes(x)
			if is := wantGot(t, "many bytes", b); is != (n <= 1<<18) {
				t.Errorf("%d bytes: %t", n, is)
			}
			r := wire.NewReader(slices.Concat(make([]byte, 5000), b, make([]byte, 1<<18)))
			r.Raw(5000)
			got, e, left := GetTx(r), api.OK, 1<<18
			if n > 1<<18 {
				x, e, left = api.Tx{}, api.ErrShape, 0
			}
			if !same(got, x) || r.Err() != e || r.Left() != left {
				t.Errorf("%d bytes amid others: %s, %d, %d left", n, short(got), r.Err(), r.Left())
			}
		}
	}
}

// P11.2: whatever bytes there are, however many, it is soon told of them.
func TestSaysMore(t *testing.T) {
	t.Parallel()
	for _, b := range [][]byte{bytes.Repeat([]byte{255}, 1<<22), make([]byte, 1<<22), bytes.Repeat([]byte{0, 1}, 1<<21), bytes.Repeat([]byte{4, 0, 1}, 1<<20), bytes.Repeat([]byte{0, 30}, 1<<21)} {
		wantGot(t, "many bytes", b)
		wantGot(t, "many bytes behind a body", slices.Concat(make([]byte, 66), b))
		wantGot(t, "many bytes behind a body and signatures", slices.Concat(make([]byte, 68), b))
		wantGot(t, "many bytes behind a program", slices.Concat(make([]byte, 68), []byte{0, 10, 0, 1, 44}, b))
	}
}

// P11.2: bytes that came about by chance.
func TestAnyBytes(t *testing.T) {
	t.Parallel()
	r := rand.New(rand.NewSource(1102))
	got := map[bool]int{}
	for range 2500 {
		b := txBytes(anyTx(r))
		for range r.Intn(3) {
			b = spoilt(r, b)
		}
		got[wantGot(t, "any bytes", b)]++
		c := make([]byte, 75+r.Intn(60))
		for range r.Intn(5) {
			c[r.Intn(len(c))] = []byte{1, 2, 4, 30, byte(r.Intn(256))}[r.Intn(5)]
		}
		got[wantGot(t, "any few bytes", c)]++
	}
	if got[true] == 0 || got[false] == 0 {
		t.Errorf("%d were right, %d not", got[true], got[false])
	}
}

package code

import (
	"bytes"
	"math/rand"
	"slices"
	"testing"

	"moidore/api"
	"moidore/wire"
)

// wantGot wants what is told of bytes to be what the chapter's words say of them: the right program whose bytes stand next, or none, and the reader spoilt. It says whether there is one.
func wantGot(t *testing.T, name string, b []byte) bool {
	t.Helper()
	x := &plain{b: b}
	want := x.program()
	r := wire.NewReader(b)
	got := Get(r)
	if x.bad || !isProgram(want) {
		if !bare(got) || r.Err() != api.ErrShape || r.Left() != 0 {
			t.Errorf("%s: %s of what is none: %d, %d left", name, short(told(got)), r.Err(), r.Left())
		}
		return false
	}
	if !same(got, want) || r.Err() != api.OK || r.Left() != len(x.b) {
		t.Errorf("%s: %s, not %s: %d, %d left, not %d", name, short(told(got)), short(told(want)), r.Err(), r.Left(), len(x.b))
	}
	if again, e := bytesOf(got); !bytes.Equal(again, b[:len(b)-len(x.b)]) || e != api.OK {
		t.Errorf("%s: another way to write it: %x, %d", name, again, e)
	}
	return true
}

// P8.2: of the bytes that were put, with nothing behind them, and with more: the program, and just its bytes are read.
func TestGet(t *testing.T) {
	for name, p := range rights() {
		b := plainBytes(p)
		for _, more := range [][]byte{nil, {0}, {255}, {49}, {0, 0, 1, 49}, make([]byte, 100), bytes.Repeat([]byte{255}, 100), b} {
			r := wire.NewReader(slices.Concat([]byte{9}, b, more))
			r.U8()
			if got := Get(r); !same(got, p) || r.Err() != api.OK {
				t.Errorf("%s, and %d bytes behind it: %s, %d", name, len(more), short(told(got)), r.Err())
			}
			if !bytes.Equal(r.Raw(len(more)), more) || !r.End() {
				t.Errorf("%s: the %d bytes behind it were taken", name, len(more))
			}
		}
	}
}

// P8.2: cut at each byte there is no program.
func TestCut(t *testing.T) {
	for name, p := range rights() {
		b := plainBytes(p)
		for n := 0; n < len(b); n += 1 + len(b)/1500 {
			r := wire.NewReader(b[:n])
			if got := Get(r); !bare(got) || r.Err() != api.ErrShape || r.End() {
				t.Errorf("%s, cut at %d: %s, %d", name, n, short(told(got)), r.Err())
			}
			if r.U8() != 0 || r.Left() != 0 || !bare(Get(r)) {
				t.Errorf("%s, cut at %d: it is not spoilt", name, n)
			}
		}
	}
}

// P8.2: each byte turned, in each bit alone, and in all.
func TestTurned(t *testing.T) {
	got := map[bool]int{}
	for name, p := range rights() {
		b := plainBytes(p)
		for i := 0; i < len(b); i += 1 + len(b)/100 {
			for _, by := range []byte{1, 2, 4, 8, 0x10, 0x20, 0x40, 0x80, 0xff} {
				c := slices.Clone(b)
				c[i] ^= by
				got[wantGot(t, name, c)]++
			}
		}
	}
	if got[true] == 0 || got[false] == 0 {
		t.Errorf("%d were right, %d not", got[true], got[false])
	}
}

// P8.2: each byte of a program of all Ops, with each other one in its place.
func TestEachByte(t *testing.T) {
	b := plainBytes(prog(2, append(allOps(), opTerm(api.OpPushTerm, pairs(num(1), text("ab"), tag(3), realOf(api.NaN))))...))
	for i := range b {
		for x := range 256 {
			c := slices.Clone(b)
			c[i] = byte(x)
			wantGot(t, "all Ops", c)
		}
	}
}

// P8.2: bytes that are no right program's.
func TestWrongGet(t *testing.T) {
	for name, text := range raw() {
		b := unhex(text)
		r := wire.NewReader(b)
		if got := Get(r); !bare(got) || r.Err() != api.ErrShape || r.Left() != 0 {
			t.Errorf("%s: %s, %d", name, short(told(got)), r.Err())
		}
		if wantGot(t, name, b) {
			t.Errorf("%s: there is a program", name)
		}
	}
	for name, p := range wrongs() {
		wantGot(t, name, plainBytes(p))
		wantGot(t, name, slices.Concat(plainBytes(p), make([]byte, 50)))
	}
}

// P8.2: the numbers of one instruction, all that its bytes can say, or all about its ends.
func TestNumbers(t *testing.T) {
	wantOne := func(want bool, x api.Instr) {
		t.Helper()
		b := slices.Concat([]byte{0, 0, 1}, instrBytes(x))
		if is := wantGot(t, told(x), b); is != want {
			t.Errorf("%s: not %t", told(x), want)
		}
	}
	for n := range int64(256) {
		wantOne(n < 40, opNum(api.OpTake, n))
		wantOne(n < 40, opNum(api.OpDrop, n))
		wantOne(n <= 40, opNum(api.OpMakeList, n))
		wantOne(n <= 40, makeTag(n, 7))
		wantGot(t, "Args", []byte{byte(n), 0, 1, 49})
		wantGot(t, "an Op", []byte{0, 0, 1, byte(n)})
	}
	for n := range int64(65536) {
		wantOne(n < 300, opNum(api.OpJump, n))
	}
	for n := int64(0); n < 65536; n += 11 {
		wantOne(n < 300, opNum(api.OpUnless, n))
	}
	for _, b := range []uint64{0, 1, 1<<31 - 1, 1 << 31, 1<<31 + 1, 1<<32 - 1} {
		wantOne(b < 1<<31, makeTag(1, b))
	}
	for _, b := range []uint64{0, minusNought, infinity, infinity + 1, api.NaN - 1, api.NaN, api.NaN + 1, minusNaN, 1<<64 - 1} {
		wantOne(isReal(b), opBits(api.OpPushReal, b))
	}
	for _, n := range []int64{least, -1, 0, most} {
		wantOne(true, opNum(api.OpPushInt, n))
	}
}

// P8.2: bytes that came about by chance.
func TestAnyBytes(t *testing.T) {
	r := rand.New(rand.NewSource(802))
	got := map[bool]int{}
	for range 20000 {
		b := plainBytes(anyProgram(r))
		for range r.Intn(3) {
			b = bent(r, b)
		}
		got[wantGot(t, "any bytes", b)]++
		c := make([]byte, r.Intn(60))
		for i := range c {
			c[i] = []byte{0, 0, 0, 1, 2, 3, 4, 6, 39, 40, byte(r.Intn(51)), byte(r.Intn(256))}[r.Intn(12)]
		}
		got[wantGot(t, "any few bytes", c)]++
	}
	if got[true] == 0 || got[false] == 0 {
		t.Errorf("%d were right, %d not", got[true], got[false])
	}
}

// bent is bytes one of which is another one, goes, or is new; or some of which stand there twice.
func bent(r *rand.Rand, b []byte) []byte {
	i := r.Intn(len(b) + 1)
	switch k := min(len(b), i+r.Intn(40)); r.Intn(4) {
	case 0:
		return slices.Concat(b[:i], b[min(i+1, len(b)):])
	case 1:
		return slices.Concat(b[:i], []byte{byte(r.Intn(256))}, b[i:])
	case 2:
		return slices.Concat(b[:k], b[i:])
	default:
		c := slices.Clone(b)
		if i < len(b) {
			c[i] = byte(r.Intn(256))
		}
		return c
	}
}

// P8.2: numbers that say more than there is are told of soon, however many bytes stand there.
func TestSaysMore(t *testing.T) {
	many := bytes.Repeat([]byte{255}, 1<<20)
	fails := bytes.Repeat([]byte{49}, 1<<20)
	lists := bytes.Repeat([]byte{3, 4, 255, 255}, 1<<18)
	for _, b := range [][]byte{many, many[:1], many[:2], many[:3], slices.Concat([]byte{0}, many), slices.Concat([]byte{0, 1, 45}, fails), slices.Concat([]byte{0, 1, 44}, lists), slices.Concat([]byte{0, 1, 44}, fails[:299])} {
		r := wire.NewReader(b)
		if got := Get(r); !bare(got) || r.Err() != api.ErrShape {
			t.Errorf("%x..: %s, %d", b[:1], short(told(got)), r.Err())
		}
	}
	r := wire.NewReader(slices.Concat([]byte{0, 1, 44}, fails))
	if got := Get(r); len(got.Instrs) != 300 || r.Left() != 1<<20-300 {
		t.Errorf("%d instructions, %d left", len(got.Instrs), r.Left())
	}
}

package run_test

import (
	"fmt"
	"math"
	"testing"

	"moidore/api"
	"moidore/float"
)

const (
	minus0   = uint64(1 << 63)
	infinity = uint64(0x7FF0000000000000)
	minusInf = uint64(0xFFF0000000000000)
	nan      = uint64(api.NaN)
	greatest = uint64(0x7FEFFFFFFFFFFFFF)
	smallest = uint64(1)
)

func real(x float64) uint64 { return math.Float64bits(x) }

// edgeReals is right reals at their ends.
func edgeReals() []uint64 {
	l := []uint64{nan}
	for _, a := range []uint64{
		0, infinity, greatest, smallest, 0x0010000000000000, real(1), real(0.5), real(3), real(1.0 / 3), real(0x1p-53),
		real(0x1p63), real(0x1p63) - 1, real(0x1p63) + 1, real(0x1p53) + 1,
	} {
		l = append(l, a, a|1<<63)
	}
	return l
}

// P10.1: of reals at their ends each Op gives what float tells.
func TestReals(t *testing.T) {
	for _, a := range edgeReals() {
		for _, b := range edgeReals() {
			name := fmt.Sprintf("%x and %x", a, b)
			wantGives(t, "the sum of "+name, op(api.OpRealAdd), float.Add(a, b), a, b)
			wantGives(t, "the difference of "+name, op(api.OpRealSub), float.Sub(a, b), a, b)
			wantGives(t, "the product of "+name, op(api.OpRealMul), float.Mul(a, b), a, b)
			wantGives(t, "the quotient of "+name, op(api.OpRealDiv), float.Div(a, b), a, b)
			wantGives(t, "whether less "+name, op(api.OpRealLess), float.Less(a, b), a, b)
			wantGives(t, "whether the same "+name, op(api.OpRealSame), float.Same(a, b), a, b)
			wantGives(t, "the order of "+name, op(api.OpRealOrder), int64(float.Order(a, b)), a, b)
		}
		name := fmt.Sprintf("of %x", a)
		wantGives(t, "itself "+name, pushReal(a), a)
		wantGives(t, "the root "+name, op(api.OpRealSqrt), float.Sqrt(a), a)
		wantGives(t, "the sign "+name, op(api.OpRealNeg), float.Neg(a), a)
		if n, is := float.Int(a); is {
			wantGives(t, "the int "+name, op(api.OpToInt), n, a)
		} else {
			wantFails(t, "the int "+name, op(api.OpToInt), a)
		}
	}
	for _, n := range edgeInts() {
		wantGives(t, fmt.Sprintf("the real of %d", n), op(api.OpToReal), float.Of(n), n)
	}
}

// P10.1: reals, word by word.
func TestRealsAtEnds(t *testing.T) {
	one, two := real(1), real(2)
	for _, x := range []struct {
		k       api.OpKind
		a, b, c uint64
	}{
		{api.OpRealAdd, one, two, real(3)}, {api.OpRealAdd, one, real(0x1p-53), one}, {api.OpRealAdd, one, real(0x3p-54), one + 1}, {api.OpRealAdd, minus0, minus0, minus0}, {api.OpRealAdd, minus0, 0, 0}, {api.OpRealAdd, infinity, minusInf, nan}, {api.OpRealAdd, greatest, greatest, infinity}, {api.OpRealAdd, nan, one, nan}, {api.OpRealAdd, one, real(-1), 0},
		{api.OpRealSub, one, two, real(-1)}, {api.OpRealSub, two, one, one}, {api.OpRealSub, infinity, infinity, nan}, {api.OpRealSub, minus0, 0, minus0}, {api.OpRealSub, 0, minus0, 0}, {api.OpRealSub, one, nan, nan}, {api.OpRealSub, one, infinity, minusInf},
		{api.OpRealMul, two, real(-3), real(-6)}, {api.OpRealMul, 0, infinity, nan}, {api.OpRealMul, minus0, one, minus0}, {api.OpRealMul, greatest, two, infinity}, {api.OpRealMul, smallest, real(0.5), 0}, {api.OpRealMul, smallest, real(-0.5), minus0},
		{api.OpRealDiv, one, two, real(0.5)}, {api.OpRealDiv, one, minus0, minusInf}, {api.OpRealDiv, one, 0, infinity}, {api.OpRealDiv, 0, 0, nan}, {api.OpRealDiv, infinity, infinity, nan}, {api.OpRealDiv, one, minusInf, minus0}, {api.OpRealDiv, two, one, two},
	} {
		wantGives(t, fmt.Sprintf("%d of %x and %x", x.k, x.a, x.b), op(x.k), x.c, x.a, x.b)
	}
	for _, x := range []struct {
		k    api.OpKind
		a, c uint64
	}{
		{api.OpRealSqrt, real(4), two}, {api.OpRealSqrt, two, real(math.Sqrt2)}, {api.OpRealSqrt, minus0, minus0}, {api.OpRealSqrt, real(-1), nan}, {api.OpRealSqrt, infinity, infinity}, {api.OpRealSqrt, minusInf, nan}, {api.OpRealSqrt, nan, nan},
		{api.OpRealNeg, 0, minus0}, {api.OpRealNeg, minus0, 0}, {api.OpRealNeg, nan, nan}, {api.OpRealNeg, infinity, minusInf}, {api.OpRealNeg, greatest, greatest | 1<<63}, {api.OpRealNeg, smallest, smallest | 1<<63},
	} {
		wantGives(t, fmt.Sprintf("%d of %x", x.k, x.a), op(x.k), x.c, x.a)
	}
	for _, x := range []struct {
		a, b       uint64
		less, same bool
		order      int64
	}{
		{minus0, 0, false, true, -1}, {0, minus0, false, true, 1}, {0, 0, false, true, 0}, {nan, nan, false, false, 0}, {nan, infinity, false, false, 1}, {infinity, nan, false, false, -1}, {minusInf, nan, false, false, -1},
		{minusInf, infinity, true, false, -1}, {greatest, infinity, true, false, -1}, {infinity, greatest, false, false, 1}, {one, two, true, false, -1}, {two, one, false, false, 1}, {one, one, false, true, 0}, {real(-2), real(-1), true, false, -1}, {minus0, smallest, true, false, -1}, {smallest | 1<<63, minus0, true, false, -1},
	} {
		name := fmt.Sprintf("%x and %x", x.a, x.b)
		wantGives(t, "whether less "+name, op(api.OpRealLess), x.less, x.a, x.b)
		wantGives(t, "whether the same "+name, op(api.OpRealSame), x.same, x.a, x.b)
		wantGives(t, "the order of "+name, op(api.OpRealOrder), x.order, x.a, x.b)
	}
}

// P10.1: ints of reals and reals of ints, word by word.
func TestBetween(t *testing.T) {
	for _, x := range []struct {
		a uint64
		n int64
	}{
		{0, 0}, {minus0, 0}, {real(-0.5), 0}, {real(0.99), 0}, {real(1.5), 1}, {real(-1.5), -1}, {smallest, 0}, {real(-0x1p63), least}, {real(0x1p63) - 1, most - 1023}, {real(0x1p53) + 1, 1<<53 + 2}, {real(12345.678), 12345},
	} {
		wantGives(t, fmt.Sprintf("the int of %x", x.a), op(api.OpToInt), x.n, x.a)
	}
	for _, a := range []uint64{nan, infinity, minusInf, real(0x1p63), real(-0x1p63) + 1, greatest, greatest | 1<<63, real(1e19), real(-1e19)} {
		wantFails(t, fmt.Sprintf("the int of %x", a), op(api.OpToInt), a)
	}
	for _, x := range []struct {
		n int64
		a uint64
	}{
		{0, 0}, {1, real(1)}, {-1, real(-1)}, {most, real(0x1p63)}, {least, real(-0x1p63)}, {1<<53 + 1, real(0x1p53)}, {1<<53 + 3, real(0x1p53) + 2}, {-1<<53 - 1, real(-0x1p53)}, {5, real(5)},
	} {
		wantGives(t, fmt.Sprintf("the real of %d", x.n), op(api.OpToReal), x.a, x.n)
	}
}

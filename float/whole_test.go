package float

import (
	"math"
	"math/big"
	"math/rand"
	"testing"

	"moidore/api"
)

// P3.4: ints at the edges, as bits.
func TestOfKnown(t *testing.T) {
	for _, c := range []struct {
		n    int64
		want uint64
	}{
		{0, 0}, {1, one}, {-1, one | minus}, {2, power(1)}, {3, 0x4008000000000000}, {-10, 0xC024000000000000},
		{math.MinInt64, power(63) | minus}, {math.MaxInt64, power(63)},
		{math.MinInt64 + 512, power(63) | minus}, {math.MinInt64 + 513, (power(63) - 1) | minus}, {math.MinInt64 + 1024, (power(63) - 1) | minus},
		{math.MaxInt64 - 511, power(63)}, {math.MaxInt64 - 512, power(63) - 1}, {math.MaxInt64 - 1023, power(63) - 1},
		{1<<53 - 1, power(53) - 1}, {1 << 53, power(53)}, {1<<53 + 1, power(53)}, {1<<53 + 2, power(53) + 1}, {1<<53 + 3, power(53) + 2}, {1<<53 + 4, power(53) + 2},
		{-1<<53 + 1, (power(53) - 1) | minus}, {-1 << 53, power(53) | minus}, {-1<<53 - 1, power(53) | minus}, {-1<<53 - 2, (power(53) + 1) | minus}, {-1<<53 - 3, (power(53) + 2) | minus},
		{1<<54 + 1, power(54)}, {1<<54 + 2, power(54)}, {1<<54 + 3, power(54) + 1}, {1<<54 + 6, power(54) + 2}, {-1<<54 - 2, power(54) | minus},
	} {
		if got := Of(c.n); got != c.want {
			t.Errorf("Of(%d): %s, not %s", c.n, bits(got), bits(c.want))
		}
	}
}

// P3.4: ints of all sizes, those that lie just between two reals among them.
func TestOfMany(t *testing.T) {
	ask := func(n int64) {
		if a := Of(n); !isNearest(a, new(big.Rat).SetInt64(n)) || n == 0 && a != 0 {
			t.Errorf("Of(%d): %s", n, bits(a))
		}
	}
	for i := range 64 {
		for d := range int64(9) {
			ask(1<<i + d - 4)
			ask(-(1<<i + d - 4))
			ask(1<<i + (d-4)<<9)
		}
	}
	r := rand.New(rand.NewSource(51))
	for range 50000 {
		n := int64(r.Uint64()) >> r.Intn(64)
		ask(n)
		ask(n | 1<<r.Intn(11))
		ask(n&^(1<<11-1) | 1<<r.Intn(11))
	}
}

func wantInt(t *testing.T, a uint64, want int64, is bool) {
	t.Helper()
	if n, was := Int(a); n != want || was != is {
		t.Errorf("Int of %s: %d, %v, not %d, %v", bits(a), n, was, want, is)
	}
}

// P3.4: numbers at the edges.
func TestIntKnown(t *testing.T) {
	const half, threeHalves = uint64(0x3FE0000000000000), uint64(one | 1<<51)
	for _, c := range []struct {
		a    uint64
		want int64
	}{
		{0, 0}, {minus, 0}, {least, 0}, {least | minus, 0}, {leastWhole, 0}, {leastWhole | minus, 0}, {half, 0}, {half | minus, 0},
		{one - 1, 0}, {(one - 1) | minus, 0}, {one, 1}, {one | minus, -1}, {one + 1, 1}, {(one + 1) | minus, -1}, {threeHalves, 1}, {threeHalves | minus, -1},
		{power(1) - 1, 1}, {(power(1) - 1) | minus, -1}, {0x4004000000000000, 2}, {0xC004000000000000, -2}, {0x400C000000000000, 3}, {0xC00C000000000000, -3},
		{power(52) - 1, 1<<52 - 1}, {(power(52) - 1) | minus, -1<<52 + 1}, {power(52), 1 << 52}, {power(52) + 1, 1<<52 + 1}, {power(53) - 1, 1<<53 - 1}, {power(53), 1 << 53}, {power(53) + 1, 1<<53 + 2},
		{power(53) | minus, -1 << 53}, {(power(53) + 1) | minus, -1<<53 - 2},
		{power(62), 1 << 62}, {power(63) - 1, 1<<63 - 1024}, {(power(63) - 1) | minus, -1<<63 + 1024}, {power(63) | minus, math.MinInt64},
	} {
		wantInt(t, c.a, c.want, true)
	}
}

// P3.4: what is no int: from 2^63 on, below -2^63, infinities, NaNs.
func TestIntOfOthers(t *testing.T) {
	for _, a := range []uint64{power(63), power(63) + 1, (power(63) + 1) | minus, power(64), power(64) | minus, power(65) + 1, power(127), power(1023), greatest, greatest | minus, inf, inf | minus} {
		wantInt(t, a, 0, false)
	}
	for _, a := range nones() {
		wantInt(t, a, 0, false)
	}
}

// P3.4: numbers of any bits, about all that are ints.
func TestIntMany(t *testing.T) {
	r := rand.New(rand.NewSource(52))
	ends := func(x *big.Int) bool { return x.IsInt64() }
	for range 100000 {
		a := r.Uint64()&^inf | uint64(1023-2+r.Intn(70))<<52
		x := exact(a)
		whole := new(big.Int).Quo(x.Num(), x.Denom())
		if ends(whole) {
			wantInt(t, a, whole.Int64(), true)
		} else {
			wantInt(t, a, 0, false)
		}
	}
}

// P3.5: sums and products are the same with a and b turned.
func TestTurned(t *testing.T) {
	l := append(edges(), nones()...)
	for _, a := range l {
		for _, b := range l {
			if Add(a, b) != Add(b, a) || Mul(a, b) != Mul(b, a) {
				t.Errorf("%s and %s turned", bits(a), bits(b))
			}
		}
	}
	r := rand.New(rand.NewSource(53))
	for range 100000 {
		a, b := r.Uint64(), r.Uint64()
		if Add(a, b) != Add(b, a) || Mul(a, b) != Mul(b, a) || Add(a, b) != Sub(a, Neg(b)) {
			t.Errorf("%s and %s turned", bits(a), bits(b))
		}
	}
}

// P3.5: sums and products hang on their grouping.
func TestGrouping(t *testing.T) {
	wantKnown(t, []known{
		{"(1 + 2^-53) + 2^-53", Add(Add(one, power(-53)), power(-53)), one},
		{"1 + (2^-53 + 2^-53)", Add(one, Add(power(-53), power(-53))), one + 1},
		{"(greatest times 2) times 1/2", Mul(Mul(greatest, power(1)), power(-1)), inf},
		{"greatest times (2 times 1/2)", Mul(greatest, Mul(power(1), power(-1))), greatest},
		{"(inf + greatest) - inf", Sub(Add(inf, greatest), inf), api.NaN},
		{"(inf + -inf) + 1", Add(Add(inf, inf|minus), one), api.NaN},
	})
}

// P3.5: Int(Of(n)) is n from -2^53 to 2^53, and not of what is one beyond.
func TestIntOfOf(t *testing.T) {
	const edge53 = 1 << 53
	for d := range int64(5000) {
		for _, n := range []int64{d, -d, edge53 - d, -edge53 + d, edge53/2 + d, edge53/2 - d} {
			if got, is := Int(Of(n)); got != n || !is {
				t.Errorf("Int of Of(%d): %d, %v", n, got, is)
			}
		}
	}
	r := rand.New(rand.NewSource(54))
	for range 100000 {
		n := r.Int63n(2*edge53+1) - edge53
		if got, is := Int(Of(n)); got != n || !is {
			t.Errorf("Int of Of(%d): %d, %v", n, got, is)
		}
	}
	wantInt(t, Of(edge53+1), edge53, true)
	wantInt(t, Of(-edge53-1), -edge53, true)
	wantInt(t, Of(edge53+3), edge53+4, true)
	wantInt(t, Of(math.MinInt64), math.MinInt64, true)
	wantInt(t, Of(math.MaxInt64), 0, false)
}

package float

import (
	"math/big"
	"math/rand"
	"strconv"
	"testing"

	"moidore/api"
)

const (
	minus       = 1 << 63 // the sign
	inf         = 0x7FF0000000000000
	one         = 0x3FF0000000000000
	least       = 1
	leastWhole  = 0x0010000000000000 // 2^-1022: below it numbers have fewer bits
	greatest    = 0x7FEFFFFFFFFFFFFF
	fractionAll = 1<<52 - 1
)

// power is the bits of 2^n, n being from -1074 to 1023.
func power(n int) uint64 {
	if n < -1022 {
		return 1 << (n + 1074)
	}
	return uint64(n+1023) << 52
}

// isNone says whether a is a NaN, by the words of the chapter.
func isNone(a uint64) bool { return a>>52&0x7FF == 0x7FF && a&fractionAll != 0 }

func isInf(a uint64) bool { return a&^minus == inf }

func isNought(a uint64) bool { return a&^minus == 0 }

// below says whether a's sign stands.
func below(a uint64) bool { return a&minus != 0 }

// signed is the number whose sign stands just if is.
func signed(a uint64, is bool) uint64 {
	if is {
		return a | minus
	}
	return a &^ minus
}

// exact is the number a, by the words of IEEE 754; that of an infinity is 2^1024: what would stand behind the greatest number.
func exact(a uint64) *big.Rat {
	places, m := int(a>>52&0x7FF), int64(a&fractionAll)
	if places == 0 {
		places = 1
	} else {
		m |= 1 << 52
	}
	if below(a) {
		m = -m
	}
	x, n := new(big.Rat).SetInt64(m), places-1075
	shift := new(big.Int).Lsh(big.NewInt(1), uint(max(n, -n)))
	if n < 0 {
		return x.Quo(x, new(big.Rat).SetInt(shift))
	}
	return x.Mul(x, new(big.Rat).SetInt(shift))
}

// away is how far a stands from x.
func away(a uint64, x *big.Rat) *big.Rat {
	d := new(big.Rat).Sub(exact(a), x)
	return d.Abs(d)
}

// isNearest says whether a is x, rounded; of what is nought the sign is not asked.
func isNearest(a uint64, x *big.Rat) bool {
	size := a &^ minus
	if size > inf || x.Sign() != 0 && below(a) != (x.Sign() < 0) {
		return false
	}
	x = new(big.Rat).Abs(x)
	nearer := func(b uint64) bool {
		c := away(b, x).Cmp(away(size, x))
		return c < 0 || c == 0 && size&1 == 1
	}
	return (size == 0 || !nearer(size-1)) && (size == inf || !nearer(size+1))
}

// nones is NaNs, api.NaN first: of both signs, with each one bit of the fraction, with all, and with some.
func nones() []uint64 {
	l := []uint64{api.NaN, api.NaN | minus}
	for i := range 52 {
		l = append(l, inf|1<<i, inf|1<<i|minus)
	}
	for _, f := range []uint64{fractionAll, fractionAll >> 1, 1<<51 | 1, 3, 1<<51 | 1<<50, 0x123456789} {
		l = append(l, inf|f, inf|f|minus)
	}
	return l
}

// sizes is numbers without a sign that rise, of all sorts, each edge with those that are one bit apart from it.
func sizes() []uint64 {
	return []uint64{
		0, least, 2, 3, 4, 1 << 51, leastWhole - 2, leastWhole - 1, leastWhole, leastWhole + 1, 2*leastWhole - 1, 2 * leastWhole, 3 * leastWhole,
		power(-600), power(-538), power(-537), power(-537) + 1, power(-511), power(-54), power(-53), power(-53) + 1, power(-52),
		power(-1) - 1, power(-1), power(-1) + 1, one - 2, one - 1, one, one + 1, one + 2, one + 3, power(0) | 1<<51, power(1) - 1, power(1), power(1) + 1, power(1) | 1<<51,
		power(52) - 1, power(52), power(52) + 1, power(53) - 2, power(53) - 1, power(53), power(53) + 1, power(53) + 2, power(54),
		power(62), power(63) - 1, power(63), power(63) + 1, power(64), power(511), power(512) - 1, power(512), power(970) - 1, power(970), power(970) + 1, power(971),
		power(1022), power(1023) - 1, power(1023), greatest - 1, greatest, inf,
	}
}

// edges is those of sizes, of both signs.
func edges() []uint64 {
	var l []uint64
	for _, a := range sizes() {
		l = append(l, a, a|minus)
	}
	return l
}

// anyOne is a number of any sort: one that is near b, one of few bits, one of any bits, never a NaN.
func anyOne(r *rand.Rand, b uint64) uint64 {
	a := r.Uint64()
	switch r.Intn(5) {
	case 0:
		a = signed(b, a&1 == 1) ^ uint64(r.Intn(16))
	case 1:
		places := min(max(int(b>>52&0x7FF)+r.Intn(121)-60, 0), 0x7FE)
		a = a&^inf | uint64(places)<<52
	case 2:
		a = a&minus | uint64(r.Intn(0x7FF))<<52 | 1<<r.Intn(52) | 1<<r.Intn(52)
	case 3:
		a = a&(minus|fractionAll) | 1<<r.Intn(56)
	}
	if isNone(a) {
		return a &^ fractionAll
	}
	return a
}

func bits(a uint64) string { return strconv.FormatUint(a, 16) }

func wantBits(t *testing.T, what string, got, want uint64) {
	t.Helper()
	if got != want {
		t.Errorf("%s: %s, not %s", what, bits(got), bits(want))
	}
}

// What the tests ask with: numbers of known bits.
func TestExact(t *testing.T) {
	for _, c := range []struct {
		a    uint64
		want string
	}{
		{0, "0/1"}, {one, "1/1"}, {0x3FF8000000000000, "3/2"}, {0xC008000000000000, "-3/1"}, {0x43F0000000000000, "18446744073709551616/1"}, {0x3FB999999999999A, "3602879701896397/36028797018963968"},
	} {
		if got := exact(c.a).String(); got != c.want {
			t.Errorf("%s: %s, not %s", bits(c.a), got, c.want)
		}
	}
	l := sizes()
	for i := 1; i < len(l); i++ {
		if exact(l[i-1]).Cmp(exact(l[i])) >= 0 || l[i-1] >= l[i] {
			t.Errorf("%s does not stand below %s", bits(l[i-1]), bits(l[i]))
		}
	}
	between := new(big.Rat).Add(exact(one+1), exact(power(-53)))
	for a, want := range map[uint64]bool{one: false, one + 1: false, one + 2: true, one + 3: false, one + 2 | minus: false} {
		if isNearest(a, between) != want {
			t.Errorf("%s", bits(a))
		}
	}
}

// P3.1: just api.NaN of all NaNs is right.
func TestRightAndCanonOfNone(t *testing.T) {
	for _, a := range nones() {
		if !isNone(a) {
			t.Fatalf("%s is a number", bits(a))
		}
		if Right(a) != (a == api.NaN) {
			t.Errorf("Right of %s: %v", bits(a), Right(a))
		}
		wantBits(t, "Canon of "+bits(a), Canon(a), api.NaN)
		wantBits(t, "Neg of "+bits(a), Neg(a), api.NaN)
	}
}

// P3.1: all others are right, and stay as they are.
func TestRightAndCanonOfNumbers(t *testing.T) {
	ask := func(a uint64) {
		if !Right(a) {
			t.Errorf("%s is not right", bits(a))
		}
		wantBits(t, "Canon of "+bits(a), Canon(a), a)
		wantBits(t, "Neg of "+bits(a), Neg(a), a^minus)
		wantBits(t, "Neg of Neg of "+bits(a), Neg(Neg(a)), a)
	}
	for _, a := range edges() {
		ask(a)
	}
	for places := range uint64(0x7FF) {
		for _, f := range []uint64{0, 1, 1 << 51, 1<<51 - 1, fractionAll} {
			ask(places<<52 | f)
			ask(places<<52 | f | minus)
		}
	}
	r := rand.New(rand.NewSource(31))
	for range 100000 {
		ask(anyOne(r, one))
	}
}

// P3.1: of any bits at all.
func TestCanonOfAnyBits(t *testing.T) {
	r := rand.New(rand.NewSource(32))
	for range 200000 {
		a := r.Uint64()
		if r.Intn(2) == 0 {
			a |= inf
		}
		want := a
		if isNone(a) {
			want = api.NaN
		}
		wantBits(t, "Canon of "+bits(a), Canon(a), want)
		if Right(a) != (want == a) || !Right(Canon(a)) || !Right(Neg(a)) {
			t.Errorf("Right of %s", bits(a))
		}
	}
}

package float

import (
	"math/big"
	"math/rand"
	"testing"

	"moidore/api"
)

// deed is a call of two, what it is to tell of those that the chapter's table names, and its exact result of others.
type deed struct {
	name  string
	call  func(a, b uint64) uint64
	table func(a, b uint64) (uint64, bool)
	exact func(x, y *big.Rat) *big.Rat
	// nought says whether a result that is exactly 0 is -0.
	nought func(a, b uint64) bool
}

func unlike(a, b uint64) bool { return below(a) != below(b) }

func deeds() []deed {
	return []deed{
		{"Add", Add, sumTable, new(big.Rat).Add, func(a, b uint64) bool { return isNought(a) && below(a) && isNought(b) && below(b) }},
		{"Sub", Sub, func(a, b uint64) (uint64, bool) { return sumTable(a, b^minus) }, new(big.Rat).Sub, func(a, b uint64) bool { return isNought(a) && below(a) && isNought(b) && !below(b) }},
		{"Mul", Mul, productTable, new(big.Rat).Mul, unlike},
		{"Div", Div, quotientTable, new(big.Rat).Quo, unlike},
	}
}

// sumTable is a sum with an infinity.
func sumTable(a, b uint64) (uint64, bool) {
	switch {
	case isInf(a) && isInf(b) && unlike(a, b):
		return api.NaN, true
	case isInf(a):
		return a, true
	}
	return b, isInf(b)
}

// productTable is a product with an infinity.
func productTable(a, b uint64) (uint64, bool) {
	switch {
	case isNought(a) && isInf(b) || isInf(a) && isNought(b):
		return api.NaN, true
	}
	return signed(inf, unlike(a, b)), isInf(a) || isInf(b)
}

// quotientTable is a quotient with an infinity, or by 0.
func quotientTable(a, b uint64) (uint64, bool) {
	switch {
	case isInf(a) && isInf(b) || isNought(a) && isNought(b):
		return api.NaN, true
	case isInf(b):
		return signed(0, unlike(a, b)), true
	}
	return signed(inf, unlike(a, b)), isInf(a) || isNought(b)
}

// ask asks what the deed tells of a and b, no NaNs.
func (d deed) ask(t *testing.T, a, b uint64) {
	t.Helper()
	got := d.call(a, b)
	what := d.name + " of " + bits(a) + " and " + bits(b)
	if !Right(got) {
		t.Errorf("%s: %s is not right", what, bits(got))
	}
	if want, is := d.table(a, b); is {
		wantBits(t, what, got, want)
		return
	}
	x := d.exact(exact(a), exact(b))
	if !isNearest(got, x) {
		t.Errorf("%s: %s is not the nearest number", what, bits(got))
	}
	// Of a result that is 0 just because it is rounded isNearest asked the sign.
	if isNought(got) && x.Sign() == 0 && below(got) != d.nought(a, b) {
		t.Errorf("%s: %s, of the other sign", what, bits(got))
	}
}

// P3.2: each two of all sorts of numbers.
func TestDeedsOfEdges(t *testing.T) {
	l := edges()
	for _, d := range deeds() {
		for _, a := range l {
			for _, b := range l {
				d.ask(t, a, b)
			}
		}
	}
}

// P3.2: numbers of any bits, near ones, and those of few bits, whose results lie just between two numbers now and then.
func TestDeedsOfMany(t *testing.T) {
	for i, d := range deeds() {
		r := rand.New(rand.NewSource(int64(33 + i)))
		for range 15000 {
			a := anyOne(r, one)
			d.ask(t, a, anyOne(r, a))
		}
	}
}

// P3.2: a NaN, right or not, as either argument, as both.
func TestDeedsOfNone(t *testing.T) {
	for _, d := range deeds() {
		for _, n := range nones() {
			for _, a := range edges() {
				wantBits(t, d.name+" of "+bits(n)+" and "+bits(a), d.call(n, a), api.NaN)
				wantBits(t, d.name+" of "+bits(a)+" and "+bits(n), d.call(a, n), api.NaN)
			}
			for _, m := range nones() {
				wantBits(t, d.name+" of "+bits(n)+" and "+bits(m), d.call(n, m), api.NaN)
			}
		}
	}
	for _, n := range nones() {
		wantBits(t, "Sqrt of "+bits(n), Sqrt(n), api.NaN)
	}
}

// known is a call, and what it tells, as bits.
type known struct {
	what      string
	got, want uint64
}

func wantKnown(t *testing.T, l []known) {
	t.Helper()
	for _, k := range l {
		wantBits(t, k.what, k.got, k.want)
	}
}

// P3.2: the lines of the chapter's table, as bits.
func TestTable(t *testing.T) {
	const infBelow, noughtBelow = inf | minus, minus
	wantKnown(t, []known{
		{"inf + -inf", Add(inf, infBelow), api.NaN},
		{"-inf + inf", Add(infBelow, inf), api.NaN},
		{"inf - inf", Sub(inf, inf), api.NaN},
		{"-inf - -inf", Sub(infBelow, infBelow), api.NaN},
		{"inf + inf", Add(inf, inf), inf},
		{"-inf + -inf", Add(infBelow, infBelow), infBelow},
		{"inf - -inf", Sub(inf, infBelow), inf},
		{"-inf - inf", Sub(infBelow, inf), infBelow},
		{"1 + inf", Add(one, inf), inf},
		{"inf + -greatest", Add(inf, greatest|minus), inf},
		{"greatest + -inf", Add(greatest, infBelow), infBelow},
		{"1 - inf", Sub(one, inf), infBelow},
		{"1 - -inf", Sub(one, infBelow), inf},
		{"-inf - 1", Sub(infBelow, one), infBelow},
		{"0 - inf", Sub(0, inf), infBelow},
		{"1 - 1", Sub(one, one), 0},
		{"-1 - -1", Sub(one|minus, one|minus), 0},
		{"1 + -1", Add(one, one|minus), 0},
		{"-1 + 1", Add(one|minus, one), 0},
		{"0 + 0", Add(0, 0), 0},
		{"0 + -0", Add(0, noughtBelow), 0},
		{"-0 + 0", Add(noughtBelow, 0), 0},
		{"-0 + -0", Add(noughtBelow, noughtBelow), noughtBelow},
		{"0 - 0", Sub(0, 0), 0},
		{"0 - -0", Sub(0, noughtBelow), 0},
		{"-0 - 0", Sub(noughtBelow, 0), noughtBelow},
		{"-0 - -0", Sub(noughtBelow, noughtBelow), 0},
		{"-0 + 1", Add(noughtBelow, one), one},
		{"0 times inf", Mul(0, inf), api.NaN},
		{"-0 times inf", Mul(noughtBelow, inf), api.NaN},
		{"-inf times 0", Mul(infBelow, 0), api.NaN},
		{"0 by 0", Div(0, 0), api.NaN},
		{"-0 by 0", Div(noughtBelow, 0), api.NaN},
		{"0 by -0", Div(0, noughtBelow), api.NaN},
		{"inf by inf", Div(inf, inf), api.NaN},
		{"-inf by inf", Div(infBelow, inf), api.NaN},
		{"inf times inf", Mul(inf, inf), inf},
		{"inf times -inf", Mul(inf, infBelow), infBelow},
		{"-inf times -1", Mul(infBelow, one|minus), inf},
		{"least times -inf", Mul(least, infBelow), infBelow},
		{"1 by inf", Div(one, inf), 0},
		{"-1 by inf", Div(one|minus, inf), noughtBelow},
		{"1 by -inf", Div(one, infBelow), noughtBelow},
		{"-0 by -inf", Div(noughtBelow, infBelow), 0},
		{"inf by -1", Div(inf, one|minus), infBelow},
		{"inf by 0", Div(inf, 0), inf},
		{"inf by -0", Div(inf, noughtBelow), infBelow},
		{"1 by 0", Div(one, 0), inf},
		{"1 by -0", Div(one, noughtBelow), infBelow},
		{"-1 by 0", Div(one|minus, 0), infBelow},
		{"-least by -0", Div(least|minus, noughtBelow), inf},
		{"0 times -1", Mul(0, one|minus), noughtBelow},
		{"-0 times -0", Mul(noughtBelow, noughtBelow), 0},
		{"0 by -1", Div(0, one|minus), noughtBelow},
		{"-0 by -greatest", Div(noughtBelow, greatest|minus), 0},
		{"the root of -1", Sqrt(one | minus), api.NaN},
		{"the root of -least", Sqrt(least | minus), api.NaN},
		{"the root of -greatest", Sqrt(greatest | minus), api.NaN},
		{"the root of -inf", Sqrt(infBelow), api.NaN},
		{"the root of 0", Sqrt(0), 0},
		{"the root of -0", Sqrt(noughtBelow), noughtBelow},
		{"the root of inf", Sqrt(inf), inf},
	})
}

// P3.2: ordinary numbers, as bits.
func TestKnown(t *testing.T) {
	const tenth, fifth, three, third = 0x3FB999999999999A, 0x3FC999999999999A, 0x4008000000000000, 0x3FD5555555555555
	wantKnown(t, []known{
		{"1 + 1", Add(one, one), power(1)},
		{"0.1 + 0.2", Add(tenth, fifth), 0x3FD3333333333334},
		{"1 - 3", Sub(one, three), power(1) | minus},
		{"0.2 - 0.1", Sub(fifth, tenth), tenth},
		{"3 times 3", Mul(three, three), 0x4022000000000000},
		{"0.1 times 3", Mul(tenth, three), 0x3FD3333333333334},
		{"0.1 times 0.1", Mul(tenth, tenth), 0x3F847AE147AE147C},
		{"1 by 3", Div(one, three), third},
		{"1 by -3", Div(one, three|minus), third | minus},
		{"3 by 0.1", Div(three, tenth), 0x403E000000000000},
		{"1 by 10", Div(one, 0x4024000000000000), tenth},
		{"the root of 4", Sqrt(power(2)), power(1)},
		{"the root of 2", Sqrt(power(1)), 0x3FF6A09E667F3BCD},
		{"the root of 3", Sqrt(three), 0x3FFBB67AE8584CAA},
		{"the root of 0.1", Sqrt(tenth), 0x3FD43D136248490F},
		{"the root of least", Sqrt(least), power(-537)},
		{"the root of greatest", Sqrt(greatest), power(512) - 1},
		{"the root of what is just above 1", Sqrt(one + 1), one},
		{"the root of what is just below 1", Sqrt(one - 1), one - 1},
	})
}

// P3.2: results that lie just between two numbers, or by one bit beside, in the midst, at the least ones, and at the greatest ones.
func TestRounded(t *testing.T) {
	const half, noughtBelow = uint64(0x3FE0000000000000), uint64(minus)
	wantKnown(t, []known{
		{"1 + 2^-53", Add(one, power(-53)), one},
		{"1 and a bit + 2^-53", Add(one+1, power(-53)), one + 2},
		{"1 + a bit more than 2^-53", Add(one, power(-53)+1), one + 1},
		{"1 + 3 times 2^-54", Add(one, power(-53)|1<<51), one + 1},
		{"1 - 2^-54", Sub(one, power(-54)), one},
		{"1 - 3 times 2^-54", Sub(one, power(-53)|1<<51), one - 2},
		{"1 less a bit - 2^-54", Sub(one-1, power(-54)), one - 2},
		{"-1 - 2^-53", Sub(one|minus, power(-53)), one | minus},
		{"-1 and a bit - 2^-53", Sub(one+1|minus, power(-53)), (one + 2) | minus},
		{"2^53 + 1", Add(power(53), one), power(53)},
		{"2^53 + 2 + 1", Add(power(53)+1, one), power(53) + 2},
		{"2^53 - 1", Sub(power(53), one), power(53) - 1},
		{"1 and a bit times 1.5", Mul(one+1, one|1<<51), one | 1<<51 + 2},
		{"1 and 3 bits times 1.5", Mul(one+3, one|1<<51), one | 1<<51 + 4},
		{"least times 1/2", Mul(least, half), 0},
		{"-least times 1/2", Mul(least|minus, half), noughtBelow},
		{"least by -2", Div(least, power(1)|minus), noughtBelow},
		{"-least by -2", Div(least|minus, power(1)|minus), 0},
		{"least times what is just above 1/2", Mul(least, half+1), least},
		{"least times what is just below 1/2", Mul(least, half-1), 0},
		{"least by what is just below 2", Div(least, power(1)-1), least},
		{"3 least times 1/2", Mul(3, half), 2},
		{"5 least times 1/2", Mul(5, half), 2},
		{"7 least by -2", Div(7, power(1)|minus), 4 | minus},
		{"least times least", Mul(least, least), 0},
		{"least times -least", Mul(least, least|minus), noughtBelow},
		{"-least by greatest", Div(least|minus, greatest), noughtBelow},
		{"2^-537 times 2^-537", Mul(power(-537), power(-537)), least},
		{"2^-537 times 2^-538", Mul(power(-537), power(-538)), 0},
		{"least and least", Add(least, least), 2},
		{"the least whole - least", Sub(leastWhole, least), leastWhole - 1},
		{"what is just below the least whole + least", Add(leastWhole-1, least), leastWhole},
		{"just below twice the least whole times 1/2", Mul(2*leastWhole-1, half), leastWhole},
		{"greatest + 2^969", Add(greatest, power(969)), greatest},
		{"greatest + just below 2^970", Add(greatest, power(970)-1), greatest},
		{"greatest + 2^970", Add(greatest, power(970)), inf},
		{"-greatest - 2^970", Sub(greatest|minus, power(970)), inf | minus},
		{"-greatest - just below 2^970", Sub(greatest|minus, power(970)-1), greatest | minus},
		{"less than greatest + 2^970", Add(greatest-1, power(970)), greatest - 1},
		{"greatest + greatest", Add(greatest, greatest), inf},
		{"greatest - -greatest", Sub(greatest, greatest|minus), inf},
		{"greatest times just above 1", Mul(greatest, one+1), inf},
		{"greatest times just below -1", Mul(greatest, (one+1)|minus), inf | minus},
		{"greatest times just below 1", Mul(greatest, one-1), greatest - 1},
		{"2^512 times 2^512", Mul(power(512), power(512)), inf},
		{"2^512 times 2^511", Mul(power(512), power(511)), power(1023)},
		{"2^512 times just below 2^512", Mul(power(512), power(512)-1), greatest},
		{"1 by least", Div(one, least), inf},
		{"-1 by least", Div(one|minus, least), inf | minus},
		{"greatest by just below 1", Div(greatest, one-1), inf},
		{"greatest by just above 1", Div(greatest, one+1), greatest - 2},
	})
}

// isRoot says whether r is the root of a number above 0, rounded: a stands between the squares of what is half way to r's neighbours.
func isRoot(r, a uint64) bool {
	half := func(b uint64) *big.Rat {
		x := new(big.Rat).Add(exact(r), exact(b))
		x.Quo(x, big.NewRat(2, 1))
		return x.Mul(x, x)
	}
	return half(r-1).Cmp(exact(a)) < 0 && exact(a).Cmp(half(r+1)) < 0
}

// P3.2: roots; none lies just between two numbers.
func TestRoots(t *testing.T) {
	ask := func(a uint64) {
		if isNought(a) || isInf(a) {
			return
		}
		if r := Sqrt(a); below(r) || !isRoot(r, a) {
			t.Errorf("the root of %s: %s", bits(a), bits(r))
		}
		wantBits(t, "the root of "+bits(a|minus), Sqrt(a|minus), api.NaN)
	}
	for _, a := range sizes() {
		ask(a)
	}
	r := rand.New(rand.NewSource(37))
	for range 20000 {
		ask(anyOne(r, one) &^ minus)
	}
	for n := range uint64(2000) {
		wantBits(t, "the root of a square", Sqrt(Of(int64(n*n))), Of(int64(n)))
	}
}

// R1, and that what is told is right: any bits at all.
func TestToldIsRight(t *testing.T) {
	r := rand.New(rand.NewSource(38))
	for range 100000 {
		a, b := r.Uint64(), r.Uint64()
		if r.Intn(2) == 0 {
			a |= inf
		}
		if r.Intn(4) == 0 {
			b |= inf
		}
		for i, c := range []uint64{Canon(a), Add(a, b), Sub(a, b), Mul(a, b), Div(a, b), Sqrt(a), Neg(a), Of(int64(a))} {
			if !Right(c) {
				t.Errorf("the %d-th of %s and %s: %s", i, bits(a), bits(b), bits(c))
			}
		}
	}
}

// R4: one thing is answered alike each time, and NaNs are taken as api.NaN by all calls.
func TestAlike(t *testing.T) {
	r := rand.New(rand.NewSource(39))
	for range 20000 {
		a, b := r.Uint64()|inf*uint64(r.Intn(2)), r.Uint64()|inf*uint64(r.Intn(2))
		for range 2 {
			c, d := Canon(a), Canon(b)
			for i, e := range deeds() {
				if e.call(a, b) != e.call(c, d) {
					t.Errorf("the %d-th of %s and %s", i, bits(a), bits(b))
				}
			}
			n, is := Int(a)
			m, was := Int(c)
			if Sqrt(a) != Sqrt(c) || Neg(a) != Neg(c) || Less(a, b) != Less(c, d) || Same(a, b) != Same(c, d) || Order(a, b) != Order(c, d) || n != m || is != was {
				t.Errorf("%s and %s", bits(a), bits(b))
			}
		}
	}
}

// The chapter's examples of sums, quotients, differences.
func TestExamples(t *testing.T) {
	wantKnown(t, []known{
		{"Add of 1 and 2^-53", Add(one, power(-53)), one},
		{"Add of 1 and 3 times 2^-54", Add(one, Mul(Of(3), power(-54))), Add(one, power(-52))},
		{"Add of 1 and 3 times 2^-54, as bits", Add(one, Mul(Of(3), power(-54))), one + 1},
		{"Div of 1 and -0", Div(one, minus), inf | minus},
		{"Sub of an infinity and itself", Sub(inf, inf), api.NaN},
		{"Sub of the negative infinity and itself", Sub(inf|minus, inf|minus), api.NaN},
	})
	if Order(minus, 0) != -1 || !Same(minus, 0) {
		t.Error("-0 and 0")
	}
	if n, is := Int(Neg(power(-1))); n != 0 || !is {
		t.Error("Int of -0.5")
	}
	if n, is := Int(power(63)); n != 0 || is {
		t.Error("Int of 2^63")
	}
}

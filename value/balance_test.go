package value

import (
	"math/big"
	"math/rand"
	"slices"
	"testing"

	"moidore/api"
)

func wantBalance(t *testing.T, name string, want bool, in []api.Value, mint []api.Asset, out []api.Value, fee int64) {
	t.Helper()
	if got := Balance(in, mint, out, fee); got != want {
		t.Errorf("Balance of %s: %v: %s, mint %s, out %s, fee %d", name, got, toldAll(in), told(val(0, mint...)), toldAll(out), fee)
	}
}

func vals(l ...api.Value) []api.Value { return l }

// coins is bundles of coins alone.
func coins(l ...int64) []api.Value {
	var b []api.Value
	for _, n := range l {
		b = append(b, val(n))
	}
	return b
}

// amounts is bundles of one asset alone.
func amounts(l ...int64) []api.Value {
	var b []api.Value
	for _, n := range l {
		b = append(b, val(0, as("a", n)))
	}
	return b
}

// P5.5: coins, at the ends of int64, and below 0.
func TestBalanceCoins(t *testing.T) {
	for _, x := range []struct {
		in, out []int64
		fee     int64
		want    bool
	}{
		{nil, nil, 0, true},
		{nil, nil, 1, false},
		{nil, nil, -1, false},
		{[]int64{50}, []int64{40}, 10, true},
		{[]int64{50}, []int64{40}, 9, false},
		{[]int64{50}, []int64{40}, 11, false},
		{[]int64{50}, nil, 50, true},
		{nil, []int64{50}, -50, true},
		{nil, []int64{-50}, 50, true},
		{[]int64{-50}, nil, -50, true},
		{[]int64{-50}, []int64{-50}, 0, true},
		{[]int64{50}, []int64{-50}, 0, false},
		{[]int64{10, -10}, nil, 0, true},
		{[]int64{most, most}, []int64{most, most - 1}, 1, true},
		{[]int64{most, most}, []int64{most, most}, 0, true},
		{[]int64{most, most}, []int64{-2}, 0, false},
		{[]int64{most, most}, []int64{-1}, -1, false},
		{[]int64{most, 1}, []int64{least}, 0, false},
		{[]int64{least}, []int64{most}, 1, false},
		{[]int64{least}, nil, least, true},
		{nil, []int64{least}, least, false},
		{nil, []int64{most}, least, false},
		{nil, []int64{most, 1}, least, true},
		{[]int64{least, least}, nil, 0, false},
		{[]int64{least, least}, []int64{least}, least, true},
		{[]int64{most, most, 2}, nil, 0, false},
		{[]int64{least, most, 1}, nil, 0, true},
		{[]int64{most, most, most, least, least}, []int64{most - 2}, 0, true},
		{[]int64{most, most, most, least, least}, []int64{most - 1}, 0, false},
		{[]int64{most, 1, least}, []int64{most, 1}, least, true},
	} {
		wantBalance(t, "coins", x.want, coins(x.in...), nil, coins(x.out...), x.fee)
	}
}

// P5.5: amounts, at the ends of int64, and below 0; those that are minted.
func TestBalanceAmounts(t *testing.T) {
	for _, x := range []struct {
		in, mint, out []int64
		want          bool
	}{
		{nil, nil, nil, true},
		{[]int64{5}, nil, []int64{5}, true},
		{[]int64{5}, nil, []int64{4}, false},
		{[]int64{5}, nil, nil, false},
		{nil, nil, []int64{5}, false},
		{[]int64{5}, []int64{2}, []int64{7}, true},
		{[]int64{5}, []int64{-2}, []int64{3}, true},
		{[]int64{5}, []int64{-2}, []int64{7}, false},
		{[]int64{5}, []int64{-5}, nil, true},
		{nil, []int64{5}, []int64{5}, true},
		{nil, []int64{5}, nil, false},
		{nil, []int64{-5}, []int64{-5}, true},
		{nil, []int64{5, -5}, nil, true},
		{nil, []int64{5, 5}, []int64{10}, true},
		{[]int64{most, most}, nil, []int64{-2}, false},
		{[]int64{most, most}, []int64{2}, nil, false},
		{[]int64{most}, []int64{1}, []int64{least}, false},
		{[]int64{least}, []int64{least}, nil, false},
		{[]int64{least}, []int64{least}, []int64{least, least}, true},
		{[]int64{least}, []int64{most, 1}, nil, true},
		{[]int64{most}, []int64{least}, []int64{-1}, true},
		{nil, []int64{least}, []int64{least}, true},
		{nil, nil, []int64{least, least}, false},
		{nil, nil, []int64{most, least, 1}, true},
		{[]int64{most, most}, []int64{least, least}, []int64{-1, -1}, true},
		{[]int64{most, most}, []int64{least, least}, []int64{-1}, false},
	} {
		var mint []api.Asset
		for _, n := range x.mint {
			mint = append(mint, as("a", n))
		}
		wantBalance(t, "amounts", x.want, amounts(x.in...), mint, amounts(x.out...), 0)
		// The fee and the coins play no part in it, nor in them the amounts.
		wantBalance(t, "amounts and coins", x.want, append(amounts(x.in...), val(50)), mint, append(amounts(x.out...), val(40)), 10)
		wantBalance(t, "amounts and too few coins", false, append(amounts(x.in...), val(49)), mint, append(amounts(x.out...), val(40)), 10)
	}
}

// P5.5: names that are unlike; one that is just in one of the rows, with the amount 0; bundles that are not right.
func TestBalanceNames(t *testing.T) {
	wantBalance(t, "another name", false, vals(val(0, as("a", 5))), nil, vals(val(0, as("b", 5))), 0)
	wantBalance(t, "another policy", false, vals(val(0, as("a", 5))), nil, vals(val(0, by(pol(8, 8), "a", 5))), 0)
	wantBalance(t, "another name minted", false, vals(val(0, as("a", 5))), []api.Asset{as("b", 1)}, vals(val(0, as("a", 6))), 0)
	wantBalance(t, "one for another", true, vals(val(0, as("a", 5))), []api.Asset{as("a", -5), as("b", 5)}, vals(val(0, as("b", 5))), 0)
	wantBalance(t, "one of two", false, vals(val(0, as("a", 5), as("b", 1))), nil, vals(val(0, as("a", 5))), 0)
	nought := as("n", 0)
	wantBalance(t, "0 in", true, vals(val(1, nought)), nil, vals(val(1)), 0)
	wantBalance(t, "0 minted", true, vals(val(1)), []api.Asset{nought}, vals(val(1)), 0)
	wantBalance(t, "0 out", true, vals(val(1)), nil, vals(val(1, nought)), 0)
	wantBalance(t, "0 in, in a bundle of its own", true, vals(val(1), val(0, nought)), nil, vals(val(1)), 0)
	wantBalance(t, "names twice", true, vals(val(0, as("a", 2), as("a", 3))), nil, vals(val(0, as("a", 5))), 0)
	wantBalance(t, "names turned round", true, vals(val(0, as("b", 2), as("a", 3))), nil, vals(val(0, as("a", 3), as("b", 2))), 0)
	wantBalance(t, "minted, turned round", true, nil, []api.Asset{as("b", 2), as("a", 3)}, vals(val(0, as("a", 3), as("b", 2))), 0)
	wantBalance(t, "names that are too long", true, vals(val(0, as(long(40), 2))), nil, vals(val(0, as(long(40), 2))), 0)
	wantBalance(t, "one that is longer", false, vals(val(0, as(long(40), 2))), nil, vals(val(0, as(long(41), 2))), 0)
	wantBalance(t, "31 assets", true, vals(val(0, many(0, 31)...)), nil, vals(val(0, many(0, 15)...), val(0, many(15, 16)...)), 0)
	wantBalance(t, "31 minted", true, nil, many(0, 31), vals(val(0, many(0, 31)...)), 0)
	wantBalance(t, "40 in parts", false, vals(val(0, many(0, 40)...)), nil, vals(val(0, many(0, 39)...)), 0)
}

// P5.5: sums beyond 64 bits that come back, and those whose last 64 bits alone are alike.
func TestBalanceFar(t *testing.T) {
	var far []int64
	for range 16 {
		far = append(far, most)
	}
	wantBalance(t, "16 times the greatest", true, coins(far...), nil, coins(far...), 0)
	wantBalance(t, "their last 64 bits", false, coins(far...), nil, nil, -16)
	wantBalance(t, "amounts' last 64 bits", false, amounts(far...), nil, amounts(-16), 0)
	wantBalance(t, "amounts", true, amounts(far...), nil, amounts(far...), 0)
	back := slices.Concat(far, []int64{16})
	for range 16 {
		back = append(back, least)
	}
	wantBalance(t, "coins that come back", true, coins(back...), nil, nil, 0)
	wantBalance(t, "amounts that come back", true, amounts(back...), nil, nil, 0)
	wantBalance(t, "amounts that come back, out", true, nil, nil, amounts(back...), 0)
	wantBalance(t, "coins that come back but one", false, coins(back...), nil, nil, 1)
}

// P5.5: rows of all sorts, by whole numbers without an end; half of them made to balance.
func TestBalanceMany(t *testing.T) {
	r := rand.New(rand.NewSource(91))
	count := map[bool]int{}
	for range 15000 {
		in, out := bundles(r, r.Intn(4), anyBundle), bundles(r, r.Intn(4), anyBundle)
		mint, fee := anyBundle(r).Assets, anyNumber(r)
		if r.Intn(3) > 0 {
			out = evened(in, mint, fee)
		}
		if r.Intn(4) == 0 && len(out) > 0 {
			out[0] = spoilt(r, out[0])
		}
		sums := tally{}
		sums.bundles(1, in...)
		sums.assets(1, mint...)
		sums.bundles(-1, out...)
		sums.bundles(-1, val(fee))
		want := sums.even()
		count[want]++
		wantBalance(t, "any", want, in, mint, out, fee)
	}
	if count[true] < 2000 || count[false] < 2000 {
		t.Errorf("%v", count)
	}
}

// evened is bundles that balance with what goes in.
func evened(in []api.Value, mint []api.Asset, fee int64) []api.Value {
	sums := tally{}
	sums.bundles(1, in...)
	sums.assets(1, mint...)
	sums.bundles(-1, val(fee))
	var out []api.Value
	left := new(big.Int).Set(sums.coins())
	for _, n := range parts(left) {
		out = append(out, val(n))
	}
	for _, k := range sums.keys() {
		for _, n := range parts(sums[k]) {
			out = append(out, val(0, by(api.Hash([]byte(k[:32])), k[32:], n)))
		}
	}
	return out
}

// parts is numbers of 64 bits that together are n.
func parts(n *big.Int) []int64 {
	var l []int64
	for n = new(big.Int).Set(n); n.Sign() != 0; {
		part := int64(most)
		switch {
		case n.IsInt64():
			part = n.Int64()
		case n.Sign() < 0:
			part = least
		}
		l = append(l, part)
		n.Sub(n, big.NewInt(part))
	}
	return l
}

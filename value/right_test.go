package value

import (
	"math/rand"
	"slices"
	"testing"

	"moidore/api"
)

func wantRight(t *testing.T, name string, v api.Value, want bool) {
	t.Helper()
	if got := Right(v); got != want {
		t.Errorf("Right of %s: %v: %s", name, got, told(v))
	}
}

func wantMints(t *testing.T, name string, want bool, l ...api.Asset) {
	t.Helper()
	if got := Mints(l); got != want {
		t.Errorf("Mints of %s: %v: %s", name, got, told(val(0, l...)))
	}
}

func wantTotals(t *testing.T, name string, want bool, l ...api.Total) {
	t.Helper()
	if got := Totals(l); got != want {
		t.Errorf("Totals of %s: %v: %s", name, got, toldTotals(l))
	}
}

func wantOf(t *testing.T, v api.Value, policy api.Hash, name string, want int64) {
	t.Helper()
	if got := Of(v, policy, name); got != want {
		t.Errorf("Of %s%s: %d, not %d", toldName(policy, name), told(v), got, want)
	}
}

// P5.1: coins and amounts at their ends.
func TestRightNumbers(t *testing.T) {
	wantRight(t, "nothing", val(0), true)
	for n, want := range map[int64]bool{least: false, -2: false, -1: false, 0: true, 1: true, most: true} {
		wantRight(t, "coins", val(n), want)
		wantRight(t, "coins and an asset", val(n, as("a", 1)), want)
	}
	for n, want := range map[int64]bool{least: false, -1: false, 0: false, 1: true, 2: true, most: true} {
		wantRight(t, "an amount", val(0, as("a", n)), want)
		wantRight(t, "a first amount", val(5, as("a", n), as("b", 1)), want)
		wantRight(t, "an amount amid", val(5, as("a", 1), as("b", n), as("c", 1)), want)
		wantRight(t, "a last amount", val(5, as("a", 1), as("b", n)), want)
	}
}

// P5.1: what may be minted: as much below 0 as above, but not 0.
func TestMintsNumbers(t *testing.T) {
	wantMints(t, "nothing", true)
	for n, want := range map[int64]bool{least: true, -2: true, -1: true, 0: false, 1: true, 2: true, most: true} {
		wantMints(t, "an amount", want, as("a", n))
		wantMints(t, "a first amount", want, as("a", n), as("b", 1))
		wantMints(t, "an amount amid", want, as("a", 1), as("b", n), as("c", -1))
		wantMints(t, "a last amount", want, as("a", -1), as("b", n))
	}
}

// P5.1: sums of 0, and those of which just one half is.
func TestTotalsNumbers(t *testing.T) {
	wantTotals(t, "nothing", true)
	for _, x := range []struct {
		hi   int64
		lo   uint64
		want bool
	}{{0, 0, false}, {0, 1, true}, {1, 0, true}, {-1, 0, true}, {-1, all, true}, {0, 1 << 63, true}, {least, 0, true}, {most, all, true}} {
		wantTotals(t, "a sum", x.want, tot("a", x.hi, x.lo))
		wantTotals(t, "a first sum", x.want, tot("a", x.hi, x.lo), tot("b", 0, 1))
		wantTotals(t, "a sum amid", x.want, tot("a", 1, 0), tot("b", x.hi, x.lo), tot("c", 0, 1))
		wantTotals(t, "a last sum", x.want, tot("a", 1, 0), tot("b", x.hi, x.lo))
	}
}

// wantNames asks Right, Mints, Totals of a row of these names.
func wantNames(t *testing.T, name string, want bool, l ...api.Asset) {
	t.Helper()
	wantRight(t, name, val(1, l...), want)
	wantMints(t, name, want, l...)
	var m []api.Total
	for _, a := range l {
		m = append(m, api.Total{Policy: a.Policy, Name: a.Name, Sum: wide(0, 1)})
	}
	wantTotals(t, name, want, m...)
}

// P5.1: names of 32 bytes and of 33, wherever they stand.
func TestNameLength(t *testing.T) {
	for n, want := range map[int]bool{0: true, 1: true, 31: true, 32: true, 33: false, 34: false, 64: false, 288: false} {
		wantNames(t, "a name", want, as(long(n), 1))
		wantNames(t, "a first name", want, as(long(n), 1), as("y", 1))
		wantNames(t, "a name amid", want, by(api.Hash{}, "y", 1), as(long(n), 1), as("y", 1))
		wantNames(t, "a last name", want, by(api.Hash{}, "y", 1), as(long(n), 1))
	}
	// 32 bytes are more than so many runes.
	wantNames(t, "bytes, not runes", false, as("\u00e9\u00e9\u00e9\u00e9\u00e9\u00e9\u00e9\u00e9\u00e9\u00e9\u00e9\u00e9\u00e9\u00e9\u00e9\u00e9\u00e9", 1))
}

// P5.1: assets that rise by their policies, by their names; that are there twice; that are turned round.
func TestNamesRise(t *testing.T) {
	var l []api.Asset
	for _, h := range policies() {
		for _, s := range names() {
			l = append(l, by(h, s, 1))
		}
	}
	for i, a := range l {
		for k, b := range l {
			wantNames(t, "two", i < k, a, b)
		}
	}
	for i := range len(l) - 2 {
		wantNames(t, "three that rise", true, l[i], l[i+1], l[i+2])
		wantNames(t, "the first ones turned", false, l[i+1], l[i], l[i+2])
		wantNames(t, "the last ones turned", false, l[i], l[i+2], l[i+1])
		wantNames(t, "the last ones alike", false, l[i], l[i+1], l[i+1])
		wantNames(t, "the first ones alike", false, l[i], l[i], l[i+1])
		wantNames(t, "first and last alike", false, l[i], l[i+1], l[i])
	}
	wantNames(t, "one that begins the other", true, as("a", 1), as("ab", 1), as("abc", 1), as("b", 1))
	wantNames(t, "one that begins the other, turned", false, as("ab", 1), as("a", 1))
	wantNames(t, "policies ahead of names", true, by(pol(1, 0), "b", 1), by(pol(2, 0), "a", 1))
	wantNames(t, "names ahead of policies", false, by(pol(2, 0), "a", 1), by(pol(1, 0), "b", 1))
	wantNames(t, "a policy's last byte", true, by(pol(1, 1), "b", 1), by(pol(1, 2), "a", 1))
}

// P5.1: each byte of a policy counts, from the first one on, and none has a sign.
func TestPolicyBytes(t *testing.T) {
	for i := range 32 {
		var a, b api.Hash
		a[i], b[i] = 127, 128
		wantNames(t, "a byte above", true, by(a, "z", 1), by(b, "a", 1))
		wantNames(t, "a byte below", false, by(b, "a", 1), by(a, "z", 1))
		if i > 0 {
			a[i-1], b[i] = 1, 255
			wantNames(t, "the byte ahead", true, by(b, "z", 1), by(a, "a", 1))
			wantNames(t, "the byte behind", false, by(a, "a", 1), by(b, "z", 1))
		}
	}
}

// P5.1: 30 assets and 31; of totals there may be any number.
func TestAssetCount(t *testing.T) {
	for n, want := range map[int]bool{1: true, 29: true, 30: true, 31: false, 32: false, 60: false, 286: false} {
		l := many(0, n)
		wantRight(t, "so many assets", val(0, l...), want)
		wantMints(t, "so many assets", want, l...)
		var m []api.Total
		for _, a := range l {
			m = append(m, api.Total{Policy: a.Policy, Name: a.Name, Sum: wide(-1, 5)})
		}
		wantTotals(t, "so many", true, m...)
	}
}

// P5.1: bundles of all sorts, by the chapter's words.
func TestRightMany(t *testing.T) {
	r := rand.New(rand.NewSource(51))
	for range 50000 {
		v := anyBundle(r)
		wantRight(t, "any", v, right(v))
		// What may be minted is what a right bundle of sizes could have.
		sizes, nought := clone(v), false
		for i, a := range v.Assets {
			nought = nought || a.Amount == 0
			sizes.Assets[i].Amount = 1
		}
		sizes.Coin = 0
		wantMints(t, "any", right(sizes) && !nought, v.Assets...)
	}
}

// P5.1: Of a name that is there, that is not, that is there twice.
func TestOf(t *testing.T) {
	v := val(9, as("a", 1), as("ab", 2), as("b", most), by(pol(8, 8), "a", 4), by(pol(8, 8), "", 5))
	for _, a := range v.Assets {
		wantOf(t, v, a.Policy, a.Name, a.Amount)
		wantOf(t, v, a.Policy, a.Name+"\x00", 0)
		wantOf(t, v, pol(8, 7), a.Name, 0)
	}
	wantOf(t, v, p(), "", 0)
	wantOf(t, v, p(), "A", 0)
	wantOf(t, v, pol(8, 8), "b", 0)
	wantOf(t, v, api.Hash{}, "", 0)
	wantOf(t, val(9), p(), "a", 0)
	wantOf(t, val(9), api.Hash{}, "", 0)
	// Of what is not right, the first one.
	twice := val(-1, as("b", 3), as("a", 1), as("a", 2), as("b", 4), as(long(40), least), as("z", 0), as("z", 6))
	wantOf(t, twice, p(), "a", 1)
	wantOf(t, twice, p(), "b", 3)
	wantOf(t, twice, p(), "z", 0)
	wantOf(t, twice, p(), long(40), least)
	wantOf(t, twice, p(), long(41), 0)
}

// P5.1: Of names of all sorts.
func TestOfMany(t *testing.T) {
	r := rand.New(rand.NewSource(52))
	for range 3000 {
		v := anyBundle(r)
		for _, h := range policies() {
			for _, s := range names() {
				want := int64(0)
				if i := slices.IndexFunc(v.Assets, func(a api.Asset) bool { return a.Policy == h && a.Name == s }); i >= 0 {
					want = v.Assets[i].Amount
				}
				wantOf(t, v, h, s, want)
			}
		}
	}
}

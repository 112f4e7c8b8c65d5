package view_test

import (
	"math/rand"
	"slices"
	"strconv"
	"testing"

	"moidore/api"
	"moidore/pack"
	"moidore/value"
	"moidore/view"
)

func wantJoined(t *testing.T, name string, wanted api.Diff, so bool, l ...api.Diff) {
	t.Helper()
	got, is := view.Join(l...)
	want(t, name, got, is, wanted, so)
}

// wantMisfit tells, if diffs are joined.
func wantMisfit(t *testing.T, name string, l ...api.Diff) {
	t.Helper()
	wantJoined(t, name, api.Diff{}, false, l...)
}

// someDiff is a right diff with something of everything.
func someDiff() api.Diff {
	return api.Diff{
		Spent: entries(coins(10, 1), entry(ref(30, 0, 2), hashOut())),
		Made:  entries(coins(20, 2), entry(ref(30, 0, 1), termOut()), coins(200, 9)),
		Fees:  7, Forfeits: 9,
		Mint: totals(tot(1, "", -1, 5), tot(1, "a", 0, 1)),
	}
}

// P13.3: of none a zero one, and true.
func TestJoinNone(t *testing.T) {
	t.Parallel()
	wantJoined(t, "none", api.Diff{}, true)
	wantJoined(t, "none of a list", api.Diff{}, true, []api.Diff{}...)
	wantJoined(t, "none of a longer list", api.Diff{}, true, []api.Diff{someDiff()}[:0]...)
}

// P13.3: of one alone: the one, if it is right.
func TestJoinOne(t *testing.T) {
	t.Parallel()
	wantJoined(t, "a diff", someDiff(), true, someDiff())
	wantJoined(t, "nothing", api.Diff{}, true, api.Diff{})
	wantJoined(t, "the most", api.Diff{Fees: most, Forfeits: most}, true, api.Diff{Fees: most, Forfeits: most})
	for i, o := range rightOutputs() {
		d := api.Diff{Spent: entries(entry(ref(1, 1, 1), o)), Made: entries(entry(ref(1, 1, 2), o), entry(ref(2, 1, 2), o))}
		wantJoined(t, "the output "+strconv.Itoa(i), d, true, d)
	}
	for name, d := range wrongDiffs() {
		wantMisfit(t, name, d)
	}
}

// P13.3: one that is not right, ahead of others, between, behind them, with nothing else in the way.
func TestJoinWrong(t *testing.T) {
	t.Parallel()
	none, other := api.Diff{}, api.Diff{Spent: entries(coins(100, 1)), Made: entries(coins(101, 1))}
	for name, d := range wrongDiffs() {
		wantMisfit(t, name, d, none)
		wantMisfit(t, name, none, d)
		wantMisfit(t, name, d, other)
		wantMisfit(t, name, other, d)
		wantMisfit(t, name, none, d, other)
		wantMisfit(t, name, d, d)
		wantMisfit(t, name, other, none, none, d)
		wantMisfit(t, name, d, none, none, other)
	}
	wantMisfit(t, "spent, then made ahead by one that is not right", api.Diff{Made: row(1), Fees: -5}, api.Diff{Spent: row(1), Fees: 5})
	wantMisfit(t, "fees below 0 that come up again", api.Diff{Fees: 5}, api.Diff{Fees: -5})
	wantMisfit(t, "forfeits below 0 that come up again", api.Diff{Forfeits: 5}, api.Diff{Forfeits: -5}, api.Diff{Forfeits: 5})
}

// P13.3: two that have nothing to do with one another: all of both, rising; one that does nothing changes nothing.
func TestJoinTwo(t *testing.T) {
	t.Parallel()
	d, none := someDiff(), api.Diff{}
	wantJoined(t, "nothing behind", d, true, d, none)
	wantJoined(t, "nothing ahead", d, true, none, d)
	wantJoined(t, "nothing of nothing", none, true, none, none, none)
	a := api.Diff{Spent: row(2, 6), Made: row(3, 9), Fees: 1, Forfeits: 20, Mint: totals(tot(1, "a", 0, 5), tot(3, "", 0, 1))}
	b := api.Diff{Spent: row(1, 4, 8), Made: row(5, 7, 128), Fees: 300, Forfeits: 4000, Mint: totals(tot(1, "", 0, 2), tot(1, "a", -1, 1), tot(2, "z", 1, 0))}
	wantJoined(t, "two", api.Diff{
		Spent: row(1, 2, 4, 6, 8), Made: row(3, 5, 7, 9, 128), Fees: 301, Forfeits: 4020,
		Mint: totals(tot(1, "", 0, 2), tot(1, "a", -1, 6), tot(2, "z", 1, 0), tot(3, "", 0, 1)),
	}, true, a, b)
	wantJoined(t, "spent and made alone", api.Diff{Spent: row(1), Made: row(2)}, true, api.Diff{Made: row(2)}, api.Diff{Spent: row(1)})
	wantJoined(t, "one of each", api.Diff{Spent: row(1, 2), Made: row(3, 4)}, true, api.Diff{Spent: row(2), Made: row(3)}, api.Diff{Spent: row(1), Made: row(4)})
	for i, x := range rising() {
		for _, y := range rising()[i+1:] {
			one, other := entry(x, hashOut()), entry(y, termOut())
			for _, l := range [][]api.Entry{{one, other}, {other, one}} {
				wantJoined(t, "made", api.Diff{Made: entries(one, other)}, true, api.Diff{Made: l[:1]}, api.Diff{Made: l[1:]})
				wantJoined(t, "spent", api.Diff{Spent: entries(one, other)}, true, api.Diff{Spent: l[:1]}, api.Diff{Spent: l[1:]})
			}
		}
	}
}

// P13.3: what one makes, and the next one spends just so, is in neither; what it spends otherwise does not fit.
func TestJoinMadeAndSpent(t *testing.T) {
	t.Parallel()
	wantJoined(t, "one of one", api.Diff{}, true, api.Diff{Made: row(1)}, api.Diff{Spent: row(1)})
	wantJoined(t, "the middle one", api.Diff{Spent: row(9), Made: row(1, 3, 4)}, true, api.Diff{Made: row(1, 2, 3)}, api.Diff{Spent: row(2, 9), Made: row(4)})
	wantJoined(t, "all", api.Diff{Spent: row(7), Made: row(8)}, true, api.Diff{Spent: row(7), Made: row(1, 2)}, api.Diff{Spent: row(1, 2), Made: row(8)})
	wantJoined(t, "far behind", api.Diff{Made: row(2)}, true, api.Diff{Made: row(1)}, api.Diff{Made: row(2)}, api.Diff{}, api.Diff{Spent: row(1)})
	wantMisfit(t, "twice", api.Diff{Spent: row(9), Made: row(1)}, api.Diff{Spent: row(1, 2)}, api.Diff{Spent: row(2)})
	count := map[string]int{}
	for _, o := range rightOutputs() {
		for name, bend := range bends() {
			p := copied(o, 0)
			bend(&p)
			if same(p, o) || !pack.RightOutput(p) {
				continue
			}
			count[name]++
			a, b := entry(ref(5, 0, 0), o), entry(ref(5, 0, 0), p)
			wantMisfit(t, name, api.Diff{Made: entries(a)}, api.Diff{Spent: entries(b)})
			wantMisfit(t, name, api.Diff{Made: entries(b)}, api.Diff{Spent: entries(a)})
			wantMisfit(t, name, api.Diff{Made: entries(coins(1, 1), a, coins(9, 9))}, api.Diff{}, api.Diff{Spent: entries(b, coins(9, 9))})
			wantJoined(t, name, api.Diff{Made: row(1)}, true, api.Diff{Made: entries(coins(1, 1), b)}, api.Diff{Spent: entries(b)})
		}
	}
	for name := range bends() {
		if count[name] == 0 {
			t.Errorf("%s: of no output", name)
		}
	}
}

// P13.3: what went in one may neither go nor come in the next one, as it was or otherwise, and what came may not come again, but where it went.
func TestJoinMisfits(t *testing.T) {
	t.Parallel()
	spent, made := api.Diff{Spent: row(5)}, api.Diff{Made: row(5)}
	between := api.Diff{Spent: row(4), Made: row(6), Fees: 1}
	for _, o := range []api.Output{plainOut(val(5)), plainOut(val(6)), hashOut()} {
		for _, l := range [][]api.Entry{{entry(ref(5, 0, 0), o)}, {coins(1, 1), entry(ref(5, 0, 0), o), coins(9, 9)}} {
			wantMisfit(t, "spent again", spent, api.Diff{Spent: l})
			wantMisfit(t, "spent again, far behind", spent, between, api.Diff{}, api.Diff{Spent: l})
			wantMisfit(t, "spent, made again", spent, api.Diff{Made: l})
			wantMisfit(t, "spent, made again, far behind", spent, between, api.Diff{Made: l})
			wantMisfit(t, "made again", made, api.Diff{Made: l})
			wantMisfit(t, "made again, far behind", made, between, api.Diff{}, api.Diff{Made: l})
		}
	}
	wantMisfit(t, "a diff twice", someDiff(), someDiff())
	back := api.Diff{Spent: row(6), Made: row(5)}
	wantMisfit(t, "there and back", api.Diff{Spent: row(5), Made: row(6)}, back)
	wantMisfit(t, "spent ahead of what is made", api.Diff{Spent: row(5)}, api.Diff{Made: row(5)}, api.Diff{Spent: row(5)})
	wantJoined(t, "made, spent, made again", api.Diff{Made: entries(coins(5, 77))}, true, made, spent, api.Diff{Made: entries(coins(5, 77))})
	wantJoined(t, "made, spent, made, spent", api.Diff{}, true, made, spent, made, spent)
	wantJoined(t, "made, spent, spent: as the words say", api.Diff{Spent: entries(coins(5, 77))}, true, made, spent, api.Diff{Spent: entries(coins(5, 77))})
	wantMisfit(t, "made, spent, spent, made", made, spent, spent, made)
	wantMisfit(t, "one between, of many", api.Diff{Made: row(1)}, api.Diff{Made: row(2)}, api.Diff{Made: row(2)}, api.Diff{Made: row(3)})
}

// P13.3: sums of Fees, and of Forfeits, up to 2^63 - 1, each for itself.
func TestJoinSums(t *testing.T) {
	t.Parallel()
	ends := []int64{0, 1, 2, 1 << 31, 1 << 32, 1 << 62, most / 2, most/2 + 1, most - 2, most - 1, most}
	for _, a := range ends {
		for _, b := range ends {
			if mostOfTwo(a, b) {
				wantJoined(t, "fees", api.Diff{Fees: a + b, Forfeits: 3}, true, api.Diff{Fees: a, Forfeits: 1}, api.Diff{Fees: b, Forfeits: 2})
				wantJoined(t, "forfeits", api.Diff{Fees: 3, Forfeits: a + b}, true, api.Diff{Fees: 1, Forfeits: a}, api.Diff{Fees: 2, Forfeits: b})
				wantJoined(t, "both", api.Diff{Fees: most, Forfeits: a + b}, true, api.Diff{Fees: most, Forfeits: a}, api.Diff{Forfeits: b})
				wantJoined(t, "both", api.Diff{Fees: a + b, Forfeits: most}, true, api.Diff{Fees: a}, api.Diff{Fees: b, Forfeits: most})
			} else {
				wantMisfit(t, "fees", api.Diff{Fees: a}, api.Diff{Fees: b})
				wantMisfit(t, "forfeits", api.Diff{Forfeits: a}, api.Diff{Forfeits: b})
				wantMisfit(t, "fees, of three", api.Diff{Fees: a}, api.Diff{Forfeits: 1}, api.Diff{Fees: b})
				wantMisfit(t, "forfeits, of three", api.Diff{Forfeits: a}, api.Diff{Fees: 1}, api.Diff{Forfeits: b})
			}
		}
	}
	half := api.Diff{Fees: 1 << 61, Forfeits: 1 << 61}
	l := slices.Repeat([]api.Diff{half}, 3)
	wantJoined(t, "three", api.Diff{Fees: 3 << 61, Forfeits: 3 << 61}, true, l...)
	wantJoined(t, "the most of four", api.Diff{Fees: most, Forfeits: most}, true, append(l, api.Diff{Fees: 1<<61 - 1, Forfeits: 1<<61 - 1})...)
	wantMisfit(t, "one more, fees", append(l, api.Diff{Fees: 1 << 61})...)
	wantMisfit(t, "one more, forfeits", append(l, api.Diff{Forfeits: 1 << 61})...)
	wantMisfit(t, "8 times 2^61, which is 0 in 64 bits", slices.Repeat([]api.Diff{half}, 8)...)
}

// P13.3: Mint is merged: what becomes 0 is gone, and may come again; sums are of 128 bits.
func TestJoinMint(t *testing.T) {
	t.Parallel()
	mint := func(l ...api.Total) api.Diff { return api.Diff{Mint: l} }
	wantJoined(t, "it becomes 0", mint(), true, mint(tot(1, "a", 0, 5)), mint(tot(1, "a", -1, 1<<64-5)))
	wantJoined(t, "one of two becomes 0", mint(tot(1, "b", 0, 7)), true, mint(tot(1, "a", 0, 5), tot(1, "b", 0, 3)), mint(tot(1, "a", -1, 1<<64-5), tot(1, "b", 0, 4)))
	wantJoined(t, "and comes again", mint(tot(1, "a", 0, 9)), true, mint(tot(1, "a", 0, 5)), mint(tot(1, "a", -1, 1<<64-5)), mint(tot(1, "a", 0, 9)))
	wantJoined(t, "beyond 64 bits", mint(tot(1, "a", 1, 1)), true, mint(tot(1, "a", 0, 1<<64-1)), mint(tot(1, "a", 0, 2)))
	wantJoined(t, "modulo 2^128", mint(tot(1, "a", least, 0)), true, mint(tot(1, "a", most, 1<<64-1)), mint(tot(1, "a", 0, 1)))
	wantJoined(t, "0 modulo 2^128", mint(), true, mint(tot(1, "a", least, 0)), mint(tot(1, "a", least, 0)))
	wantJoined(t, "none, then some", mint(tot(1, "a", 0, 5)), true, mint(), mint(tot(1, "a", 0, 5)))
	wantJoined(t, "names apart", mint(tot(1, "", 0, 2), tot(1, "a", 0, 1), tot(2, "", 0, 4), tot(2, "a", 0, 3)), true,
		mint(tot(1, "a", 0, 1), tot(2, "a", 0, 3)), mint(tot(1, "", 0, 2), tot(2, "", 0, 4)))
	r := rand.New(rand.NewSource(1303))
	for range 500 {
		var l []api.Diff
		var rows [][]api.Total
		for range r.Intn(6) {
			row := anyTotals(r)
			l, rows = append(l, mint(row...)), append(rows, row)
		}
		wantJoined(t, "by chance", mint(value.Merge(rows...)...), true, l...)
	}
}

// states is each thing that a diff may do at a ref: nothing, spend or make the one output, or the other one.
const states = 5

// diffOf is the diff that does at each of three refs what the digits of n say.
func diffOf(n int) api.Diff {
	var d api.Diff
	for _, x := range []api.Ref{ref(1, 0, 30), ref(1, 2, 0), ref(128, 0, 0)} {
		one, other := entry(x, plainOut(val(1))), entry(x, plainOut(val(2)))
		switch n % states {
		case 1:
			d.Spent = append(d.Spent, one)
		case 2:
			d.Spent = append(d.Spent, other)
		case 3:
			d.Made = append(d.Made, one)
		case 4:
			d.Made = append(d.Made, other)
		}
		n /= states
	}
	return d
}

// P13.3: each two diffs of three refs, and each three of one, held against the plain telling.
func TestJoinEach(t *testing.T) {
	t.Parallel()
	const all = states * states * states
	fit := 0
	for n := range all {
		for m := range all {
			a, b := diffOf(n), diffOf(m)
			wanted, so := joined(a, b)
			wantJoined(t, strconv.Itoa(n)+" "+strconv.Itoa(m), wanted, so, a, b)
			if so {
				fit++
			}
		}
	}
	if fit != 11*11*11 { // of the 25 of one ref 9 do nothing in one of both, and 2 spend just so what was made
		t.Errorf("%d fit", fit)
	}
	for n := range all {
		l := []api.Diff{diffOf(n % states), diffOf(n / states % states), diffOf(n / states / states)}
		wanted, so := joined(l...)
		wantJoined(t, "three: "+strconv.Itoa(n), wanted, so, l...)
	}
}

// P13.3: many diffs, each of which spends what the one ahead made; and many that have nothing to do with one another.
func TestJoinMany(t *testing.T) {
	t.Parallel()
	const n = 3000
	at := func(i int) api.Entry {
		x := api.Ref{Place: i % 31}
		x.Tx[9], x.Tx[31] = byte(i/31/100), byte(i/31%100)
		return entry(x, plainOut(val(int64(i))))
	}
	var chain, apart []api.Diff
	var spent, made []api.Entry
	for i := range n {
		chain = append(chain, api.Diff{Spent: entries(at(i)), Made: entries(at(i + 1)), Fees: 2, Mint: totals(tot(1, "", 0, 1))})
		apart = append(apart, api.Diff{Spent: entries(at(2 * (n - 1 - i))), Made: entries(at(2*(n-1-i) + 1)), Forfeits: 3, Mint: totals(tot(byte(i%2), "", 0, 1))})
		spent, made = append(spent, at(2*i)), append(made, at(2*i+1))
	}
	wantJoined(t, "a chain", api.Diff{Spent: entries(at(0)), Made: entries(at(n)), Fees: 2 * n, Mint: totals(tot(1, "", 0, n))}, true, chain...)
	wantJoined(t, "apart", api.Diff{Spent: spent, Made: made, Forfeits: 3 * n, Mint: totals(tot(0, "", 0, n/2), tot(1, "", 0, n/2))}, true, apart...)
	wantMisfit(t, "a chain, and its first one", append(chain, chain[0])...)
	wantMisfit(t, "apart, and the first one", append(apart, apart[0])...)
}

// P13.3: diffs that are put together by chance, held against the plain telling.
func TestJoinByChance(t *testing.T) {
	t.Parallel()
	r := rand.New(rand.NewSource(1304))
	refs := rising()
	count := map[bool]int{}
	for range 4000 {
		l := anyOf(r, refs, 2)
		var diffs []api.Diff
		for range r.Intn(5) {
			d := anyFit(r, l, refs)
			l, _ = applied(l, d)
			if r.Intn(8) == 0 {
				d = spoilt(r, d)
			}
			if r.Intn(20) == 0 {
				d = anyDiff(r, refs)
			}
			diffs = append(diffs, d)
		}
		wanted, so := joined(diffs...)
		wantJoined(t, "by chance", wanted, so, diffs...)
		if len(diffs) > 1 {
			count[so]++
		}
	}
	if count[true] < 300 || count[false] < 300 {
		t.Error(count)
	}
}

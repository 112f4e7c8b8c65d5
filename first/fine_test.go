package first_test

import (
	"slices"
	"testing"

	"moidore/api"
	"moidore/tx"
)

// cheap is params by which nothing costs anything.
func cheap() api.Params {
	return api.Params{TxBytes: 1 << 18, BlockBytes: 1 << 18, TxBudget: api.Budget{Steps: 1 << 20, Memory: 1 << 20}}
}

// moves is a transaction that takes these outputs, may lose others, and makes others; it has what is asked for, but for a fee.
func moves(takes, risks, makes []api.Output, mint ...api.Asset) ask {
	c := ask{params: cheap(), tx: api.Tx{Body: api.Body{To: -1, Outputs: makes, Mint: mint}}}
	put := func(to *[]api.Ref, tx byte, l []api.Output) {
		for i, o := range l {
			c.view = append(c.view, entry(ref(tx, i), o))
			*to = append(*to, ref(tx, i))
		}
	}
	put(&c.tx.Body.Inputs, 1, takes)
	put(&c.tx.Body.Collateral, 2, risks)
	c.fit()
	return c
}

func outputs(l ...api.Output) []api.Output { return l }

// fine is transactions of many sorts that are Fine, not sealed.
func fine() map[string]ask {
	mine, coin := keyed(keys[0], val(7)), keyed(keys[1], val(1))
	spends := func(n int64, v api.Value) api.Output { return locked(prog(3, n), num(n), v) }
	data := func(n, datum int64) api.Output { return hashed(prog(3, n), num(datum), val(1)) }
	policy := func(n int64) api.Hash { return hashOf(prog(2, n)) }
	l := map[string]ask{
		"the example":            pay(),
		"the full one":           full(),
		"nothing comes, 0 coins": moves(outputs(keyed(keys[0], val(0))), nil, nil),
		"one for one":            moves(outputs(mine), nil, outputs(mine)),
		"two for one":            moves(outputs(mine, mine), nil, outputs(keyed(keys[3], val(14)))),
		"one for two":            moves(outputs(mine), nil, outputs(keyed(keys[3], val(3)), keyed(keys[0], val(4)))),
		"two owners":             moves(outputs(keyed(keys[8], val(1)), mine), nil, outputs(keyed(keys[3], val(8)))),
		"assets":                 moves(outputs(keyed(keys[0], val(1, some(3, 4)...))), nil, outputs(keyed(keys[1], val(1, some(1, 4)...)), keyed(keys[1], val(0, some(3, 4)[1:]...)))),
		"a key's, with a datum":  moves(outputs(api.Output{Address: mine.Address, Datum: api.DatumInline, Term: num(1)}), nil, nil),
		"a key's, with a hash":   moves(outputs(api.Output{Address: mine.Address, Datum: api.DatumHash, Hash: h(1, 1)}), nil, nil),
		"to a program":           moves(outputs(mine), nil, outputs(api.Output{Address: api.Address{Program: true}, Value: val(7)})),
		"a program's":            moves(outputs(spends(1, val(5))), outputs(coin), outputs(keyed(keys[0], val(5)))),
		"a program's, its hash":  moves(outputs(data(1, 1)), outputs(coin), outputs(keyed(keys[0], val(1)))),
		"a program's twice":      moves(outputs(spends(1, val(5)), spends(1, val(6))), outputs(coin), outputs(keyed(keys[0], val(11)))),
		"one datum of two":       moves(outputs(data(1, 1), data(2, 1)), outputs(coin), outputs(keyed(keys[0], val(2)))),
		"a datum's and its hash": moves(outputs(spends(1, val(1)), data(1, 1)), outputs(coin), outputs(keyed(keys[0], val(2)))),
		"a key's, a program's":   moves(outputs(mine, spends(1, val(5)), mine), outputs(coin), outputs(keyed(keys[0], val(19)))),
		"collateral of two":      moves(outputs(spends(1, val(5))), outputs(coin, mine), outputs(keyed(keys[0], val(5)))),
		"collateral of 0 coins":  moves(outputs(spends(1, val(5))), outputs(keyed(keys[0], val(0))), outputs(keyed(keys[0], val(5)))),
		"minted":                 moves(outputs(mine), outputs(coin), outputs(keyed(keys[0], val(7, as(policy(1), "a", 3)))), as(policy(1), "a", 3)),
		"minted without a name":  moves(outputs(mine), outputs(coin), outputs(keyed(keys[0], val(7, as(policy(1), "", 3)))), as(policy(1), "", 3)),
		"two minted of one":      moves(outputs(mine), outputs(coin), outputs(keyed(keys[0], val(7, as(policy(1), "a", 3), as(policy(1), "b", 4)))), as(policy(1), "a", 3), as(policy(1), "b", 4)),
		"burnt":                  moves(outputs(keyed(keys[0], val(7, as(policy(1), "a", 3)))), outputs(coin), outputs(mine), as(policy(1), "a", -3)),
		"some burnt":             moves(outputs(keyed(keys[0], val(7, as(policy(1), "a", 3)))), outputs(coin), outputs(keyed(keys[0], val(7, as(policy(1), "a", 1)))), as(policy(1), "a", -2)),
		"some minted":            moves(outputs(keyed(keys[0], val(7, as(policy(1), "a", 3)))), outputs(coin), outputs(keyed(keys[0], val(7, as(policy(1), "a", 5)))), as(policy(1), "a", 2)),
		"minted over a program":  moves(outputs(spends(1, val(7))), outputs(coin), outputs(keyed(keys[0], val(7, as(policy(1), "a", 3)))), as(policy(1), "a", 3)),
	}
	back := moves(outputs(spends(1, val(5))), outputs(keyed(keys[0], val(9, some(30, most)...))), outputs(keyed(keys[0], val(5))))
	back.tx.Body.Return = outputs(spends(3, val(9, some(30, most)...)))
	l["all collateral back"] = back
	risk := moves(outputs(mine, spends(1, val(5))), nil, outputs(keyed(keys[0], val(12))))
	risk.tx.Body.Collateral = []api.Ref{ref(1, 0)}
	l["an input as collateral"] = risk
	invalid := full()
	invalid.tx.Valid = false
	l["not valid"] = invalid
	addGreatest(l)
	return l
}

// addGreatest adds transactions with as many of a thing as may be.
func addGreatest(l map[string]ask) {
	coin := keyed(keys[1], val(1))
	var takes, makes, risks, progs, data []api.Output
	for i := range int64(30) {
		takes, makes, risks = append(takes, keyed(keys[29-i], val(1))), append(makes, keyed(keys[39], val(1))), append(risks, keyed(keys[i], val(0)))
	}
	for i := range int64(10) {
		progs, data = append(progs, locked(prog(3, i), num(1), val(1))), append(data, hashed(prog(3, 9-i), num(i), val(1)))
	}
	l["30 inputs, 30 outputs"] = moves(takes, nil, makes)
	l["30 collateral"] = moves(outputs(locked(prog(3, 1), num(1), val(5))), risks, outputs(keyed(keys[0], val(5))))
	l["10 programs"] = moves(progs, outputs(coin), makes[:10])
	l["10 terms"] = moves(data, outputs(coin), makes[:10])
	l["30 of one program"] = moves(many(30, locked(prog(3, 1), num(1), val(1))), outputs(coin), makes)
	var mint []api.Asset
	for i := range int64(9) {
		mint = append(mint, as(hashOf(prog(2, i)), "", 1))
	}
	slices.SortFunc(mint, func(a, b api.Asset) int { return compared(a.Policy, b.Policy) })
	l["30 of one program, 9 minted"] = moves(many(30, locked(prog(3, 1), num(1), val(1))), outputs(coin), append(makes[:29:29], keyed(keys[0], val(1, mint...))), mint...)
}

// P15.2: what is Fine, of each sort.
func TestFine(t *testing.T) {
	t.Parallel()
	for name, c := range fine() {
		wantAlone(t, name, c.sealed(), api.Fine)
	}
}

// P15.2: without what is asked for none of them is Fine.
func TestNotFine(t *testing.T) {
	t.Parallel()
	for name, c := range fine() {
		c.hash()
		wantAlone(t, name+", not signed", c, api.ReasonSign)
		c = c.sealed()
		c.params.TxBytes = int(c.long()) - 1
		wantAlone(t, name+", too long", c, api.ReasonSize)
		c.params.TxBytes, c.slot = 1<<18, -1
		wantReason(t, name+", at no slot", c, api.ReasonShape)
		c.slot, c.view = 15, c.view[1:]
		wantReason(t, name+", without an entry", c, api.ReasonMissing)
	}
}

// P15.2: one input at least.
func TestNoInputs(t *testing.T) {
	t.Parallel()
	c := ask{params: cheap(), tx: api.Tx{Body: api.Body{To: -1}}}
	for _, l := range [][]api.Ref{nil, {}} {
		c.tx.Body.Inputs = l
		wantAlone(t, "nothing", c.sealed(), api.ReasonInputs)
	}
	c = moves(nil, outputs(keyed(keys[0], val(5))), nil)
	c.tx.Body.Mint = []api.Asset{as(hashOf(prog(2, 1)), "", -1)}
	c.tx.Body.Outputs = nil
	c.fit()
	wantReason(t, "minted of nothing", c.sealed(), api.ReasonInputs)
}

// P15.2: with no redeemers neither collateral nor a Return.
func TestNoRedeemers(t *testing.T) {
	t.Parallel()
	for name, c := range fine() {
		if len(c.tx.Redeemers) > 0 {
			continue
		}
		c.view = append(slices.Clone(c.view), entry(ref(9, 0), keyed(keys[0], val(1000))))
		risk, back := c, c
		risk.tx.Body.Collateral = []api.Ref{ref(9, 0)}
		wantAlone(t, name+", with collateral", risk.sealed(), api.ReasonCollateral)
		back.tx.Body.Return = outputs(keyed(keys[0], val(1000)))
		wantAlone(t, name+", with a Return", back.sealed(), api.ReasonCollateral)
		back.tx.Body.Return = outputs(keyed(keys[0], val(0)))
		wantAlone(t, name+", with a Return of nothing", back.sealed(), api.ReasonCollateral)
		risk.tx.Body.Return = outputs(keyed(keys[0], val(0)))
		wantAlone(t, name+", with both", risk.sealed(), api.ReasonCollateral)
		risk.tx.Body.Return, risk.tx.Body.Collateral = outputs(), []api.Ref{}
		wantAlone(t, name+", with empty lists", risk.sealed(), api.Fine)
	}
}

// P15.2: as many bytes as there may be.
func TestMostBytes(t *testing.T) {
	t.Parallel()
	for _, n := range []int64{1<<18 - 1, 1 << 18, 1<<18 + 1} {
		c := moves(outputs(keyed(keys[0], val(0))), nil, nil)
		for c.long() < n-20100 {
			c.tx.Body.Outputs = append(c.tx.Body.Outputs, api.Output{Datum: api.DatumInline, Term: heavy()})
		}
		c.tx.Body.Outputs = append(c.tx.Body.Outputs, keyed(keys[0], val(0)), api.Output{Datum: api.DatumInline, Term: text("")})
		// A node of text is 3 bytes and its own.
		var l []api.Term
		left := int(n - c.long())
		for left > 203+3 {
			l, left = append(l, text(string(make([]byte, 200)))), left-203
		}
		l = append(l, text(string(make([]byte, left-3))))
		c.tx.Body.Outputs[len(c.tx.Body.Outputs)-1].Term = list(l...)
		c = c.sealed()
		b, is := tx.Put(c.tx)
		if n <= 1<<18 && int64(len(b)) != n || is != (n <= 1<<18) {
			t.Fatalf("%d bytes, not %d, %t", len(b), n, is)
		}
		wanted := api.Fine
		if !is {
			wanted = api.ReasonShape
		}
		wantReason(t, "as many bytes as may be, or one off", c, wanted)
		c.params.TxBytes = 1<<18 - 1
		if n == 1<<18 {
			wantAlone(t, "a byte too many", c, api.ReasonSize)
		}
		c.params.TxBytes, c.params.FeeByte = 1<<18, 1<<20
		for more, wanted := range map[int64]api.Reason{-1: api.ReasonFee, 0: api.Fine} {
			if is {
				c.tx.Body.Fee = n<<20 + more
				c.balance()
				wantAlone(t, "the most for each byte", c.sealed(), wanted)
			}
		}
	}
}

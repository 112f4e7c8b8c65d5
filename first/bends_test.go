package first_test

import (
	"fmt"
	"slices"

	"moidore/api"
)

// bend is how the full transaction becomes another one, and the reason that it meets then: at an edge from within it meets none.
type bend struct {
	name   string
	reason api.Reason
	alone  bool         // it meets that one alone
	do     []func(*ask) // each by turns: ahead of the data's hash, behind it, and behind the signatures
}

type bends []bend

func (l *bends) add(r api.Reason, name string, do func(*ask)) {
	*l = append(*l, bend{name, r, true, []func(*ask){do}})
}

// among adds one that meets others too.
func (l *bends) among(r api.Reason, name string, do func(*ask)) {
	*l = append(*l, bend{name, r, false, []func(*ask){do}})
}

// data adds one that is done behind the data's hash.
func (l *bends) data(r api.Reason, name string, do func(*ask)) {
	*l = append(*l, bend{name, r, true, []func(*ask){func(*ask) {}, do}})
}

// signed adds one that is done behind the signatures.
func (l *bends) signed(r api.Reason, name string, do func(*ask)) {
	*l = append(*l, bend{name, r, true, []func(*ask){func(*ask) {}, func(*ask) {}, do}})
}

// bent is a transaction that is sealed, with what some bends do.
func bent(c ask, l ...bend) ask {
	for turn, seal := range []func(*ask){(*ask).hash, (*ask).sign, func(*ask) {}} {
		for _, x := range l {
			if turn < len(x.do) {
				x.do[turn](&c)
			}
		}
		seal(&c)
	}
	return c
}

// numbers is params with one number that is another one.
type numbers struct {
	name        string
	least, most int64
	set         func(*api.Params, int64)
}

func allNumbers() []numbers {
	return []numbers{
		{"FeeBase", 0, 1 << 20, func(p *api.Params, n int64) { p.FeeBase = n }},
		{"FeeByte", 0, 1 << 20, func(p *api.Params, n int64) { p.FeeByte = n }},
		{"PriceSteps", 0, 1 << 20, func(p *api.Params, n int64) { p.PriceSteps = n }},
		{"PriceMemory", 0, 1 << 20, func(p *api.Params, n int64) { p.PriceMemory = n }},
		{"CoinByte", 0, 1 << 20, func(p *api.Params, n int64) { p.CoinByte = n }},
		{"Percent", 0, 1000, func(p *api.Params, n int64) { p.Percent = n }},
		{"TxBytes", 1, 1 << 18, func(p *api.Params, n int64) { p.TxBytes = int(n) }},
		{"BlockBytes", 1, 1 << 18, func(p *api.Params, n int64) { p.BlockBytes = int(n) }},
		{"TxBudget.Steps", 0, 1 << 20, func(p *api.Params, n int64) { p.TxBudget.Steps = n }},
		{"TxBudget.Memory", 0, 1 << 20, func(p *api.Params, n int64) { p.TxBudget.Memory = n }},
		{"Work", 0, 8, func(p *api.Params, n int64) { p.Work = int(n) }},
		{"Deep", 0, 20, func(p *api.Params, n int64) { p.Deep = int(n) }},
	}
}

func shapeBends(l *bends) {
	for _, x := range allNumbers() {
		for _, n := range []int64{x.least - 1, least} {
			l.among(api.ReasonShape, fmt.Sprint(x.name, " ", n), func(c *ask) { x.set(&c.params, n) })
		}
		for _, n := range []int64{x.most + 1, most} {
			l.among(api.ReasonShape, fmt.Sprint(x.name, " ", n), func(c *ask) { x.set(&c.params, n) })
		}
	}
	for _, n := range []int64{0, 8} {
		l.add(api.Fine, fmt.Sprint("Work ", n), func(c *ask) { c.params.Work = int(n) })
	}
	for _, n := range []int64{-1, 9} {
		l.add(api.ReasonShape, fmt.Sprint("the Work alone ", n), func(c *ask) { c.params.Work = int(n) })
	}
	for _, n := range []int64{-1, least, 1<<40 + 1, most} {
		l.among(api.ReasonShape, fmt.Sprint("the slot ", n), func(c *ask) { c.slot = n })
	}
	l.add(api.ReasonShape, "the slot 2^40 + 1, without end", func(c *ask) { c.slot, c.tx.Body.To = 1<<40+1, -1 })
	viewBends(l)
	for name, do := range wrongTx() {
		l.among(api.ReasonShape, name, do)
	}
}

func viewBends(l *bends) {
	last := entry(nowhere, keyed(keys[0], val(0)))
	l.add(api.Fine, "an entry more", func(c *ask) { c.view = append(c.view, last) })
	l.add(api.ReasonShape, "an entry twice", func(c *ask) { c.view = append(c.view, last, last) })
	l.add(api.ReasonShape, "entries that fall", func(c *ask) {
		n := len(c.view)
		c.view[n-2], c.view[n-1] = c.view[n-1], c.view[n-2]
	})
	l.add(api.ReasonShape, "all entries turned round", func(c *ask) { slices.Reverse(c.view) })
	for name, do := range map[string]func(*api.Entry){
		"-1 coins":               func(e *api.Entry) { e.Output.Value.Coin = -1 },
		"an Amount of 0":         func(e *api.Entry) { e.Output.Value.Assets = []api.Asset{{}} },
		"31 assets":              func(e *api.Entry) { e.Output.Value.Assets = some(31, 1) },
		"Datum 3":                func(e *api.Entry) { e.Output.Datum = 3 },
		"a hash without Datum":   func(e *api.Entry) { e.Output.Hash = h(0, 1) },
		"a term that is none":    func(e *api.Entry) { e.Output.Datum = api.DatumInline },
		"a term without Datum":   func(e *api.Entry) { e.Output.Term = num(1) },
		"the Place 31":           func(e *api.Entry) { e.Ref.Place = 31 },
		"the Place 2^32":         func(e *api.Entry) { e.Ref.Place = 1 << 32 },
		"an entry at a Place -1": func(e *api.Entry) { e.Ref.Place = -1 },
	} {
		l.add(api.ReasonShape, "an entry that nothing takes: "+name, func(c *ask) {
			e := last
			do(&e)
			c.view = append(c.view, e)
		})
	}
}

// wrongTx is how a transaction is not right any more.
func wrongTx() map[string]func(*ask) {
	of := func(do func(t *api.Tx)) func(*ask) { return func(c *ask) { do(&c.tx) } }
	return map[string]func(*ask){
		"the fee -1":                 of(func(t *api.Tx) { t.Body.Fee = -1 }),
		"From -1":                    of(func(t *api.Tx) { t.Body.From = -1 }),
		"From 2^40 + 1":              of(func(t *api.Tx) { t.Body.From = 1<<40 + 1 }),
		"To -2":                      of(func(t *api.Tx) { t.Body.To = -2 }),
		"To 2^40 + 1":                of(func(t *api.Tx) { t.Body.To = 1<<40 + 1 }),
		"31 inputs":                  of(func(t *api.Tx) { t.Body.Inputs = many(31, ref(1, 0)) }),
		"31 collateral":              of(func(t *api.Tx) { t.Body.Collateral = many(31, ref(1, 0)) }),
		"two Returns":                of(func(t *api.Tx) { t.Body.Return = many(2, t.Body.Return[0]) }),
		"31 outputs":                 of(func(t *api.Tx) { t.Body.Outputs = many(31, t.Body.Outputs[0]) }),
		"an input's place 31":        of(func(t *api.Tx) { t.Body.Inputs[0].Place = 31 }),
		"an output of -1 coins":      of(func(t *api.Tx) { t.Body.Outputs[1].Value.Coin = -1 }),
		"an output of no term":       of(func(t *api.Tx) { t.Body.Outputs[1].Term = api.Term{} }),
		"a Return of -1 coins":       of(func(t *api.Tx) { t.Body.Return[0].Value.Coin = -1 }),
		"nothing minted of an asset": of(func(t *api.Tx) { t.Body.Mint[1].Amount = 0 }),
		"minted assets that fall":    of(func(t *api.Tx) { slices.Reverse(t.Body.Mint) }),
		"11 programs":                of(func(t *api.Tx) { t.Programs = many(11, t.Programs[0]) }),
		"a program that is none":     of(func(t *api.Tx) { t.Programs[1] = api.Program{} }),
		"11 terms":                   of(func(t *api.Tx) { t.Terms = many(11, t.Terms[0]) }),
		"a term that is none":        of(func(t *api.Tx) { t.Terms[0] = api.Term{} }),
		"61 redeemers":               of(func(t *api.Tx) { t.Redeemers = many(61, t.Redeemers[0]) }),
		"a redeemer for nothing":     of(func(t *api.Tx) { t.Redeemers[0].Purpose = 0 }),
		"a redeemer's place 2^16":    of(func(t *api.Tx) { t.Redeemers[0].Place = 1 << 16 }),
		"-1 steps":                   of(func(t *api.Tx) { t.Redeemers[0].Budget.Steps = -1 }),
		"2^20 + 1 memory":            of(func(t *api.Tx) { t.Redeemers[0].Budget.Memory = 1<<20 + 1 }),
		"2^18 bytes and more": of(func(t *api.Tx) {
			t.Body.Outputs = many(30, keyed(keys[0], val(most, some(30, 1)...)))
			t.Terms = many(10, heavy())
			t.Redeemers = many(60, api.Redeemer{Purpose: 1, Term: heavy()})
		}),
	}
}

// heavy is a right term of some 20000 bytes.
func heavy() api.Term {
	return list(many(99, text(string(make([]byte, 200))))...)
}

func inputsBends(l *bends) {
	swap := func(l []api.Ref, i, k int) { l[i], l[k] = l[k], l[i] }
	more := func(to *[]api.Ref, l ...api.Ref) { *to = append(*to, l...) }
	l.add(api.ReasonInputs, "inputs of one Tx whose places fall", func(c *ask) { swap(c.tx.Body.Inputs, 0, 1) })
	l.add(api.ReasonInputs, "collateral of one Tx whose places fall", func(c *ask) { swap(c.tx.Body.Collateral, 0, 1) })
	l.add(api.Fine, "an input more", func(c *ask) { more(&c.tx.Body.Inputs, spareKey) })
	l.add(api.Fine, "two inputs more", func(c *ask) { more(&c.tx.Body.Inputs, spareKey, otherKey) })
	l.add(api.ReasonInputs, "inputs that fall", func(c *ask) { more(&c.tx.Body.Inputs, otherKey, spareKey) })
	l.add(api.ReasonInputs, "an input twice", func(c *ask) { more(&c.tx.Body.Inputs, spareKey, spareKey) })
	l.add(api.Fine, "collateral more", func(c *ask) { more(&c.tx.Body.Collateral, spareKey, otherKey) })
	l.add(api.ReasonInputs, "collateral that falls", func(c *ask) { more(&c.tx.Body.Collateral, otherKey, spareKey) })
	l.add(api.ReasonInputs, "collateral twice", func(c *ask) { more(&c.tx.Body.Collateral, spareKey, spareKey) })
	l.add(api.ReasonInputs, "the last collateral twice", func(c *ask) { more(&c.tx.Body.Collateral, ref(4, 1)) })
	l.add(api.Fine, "an input and collateral in one", func(c *ask) {
		more(&c.tx.Body.Inputs, spareKey)
		more(&c.tx.Body.Collateral, spareKey)
	})
	l.add(api.Fine, "an input's collateral too", func(c *ask) {
		c.tx.Body.Collateral = append([]api.Ref{ref(1, 1)}, c.tx.Body.Collateral...)
		c.even()
	})
	l.among(api.ReasonInputs, "no inputs", func(c *ask) { c.tx.Body.Inputs = nil })
	l.among(api.ReasonInputs, "no inputs, an empty list", func(c *ask) { c.tx.Body.Inputs = []api.Ref{} })
}

// even lets the Return have just all assets of the collateral.
func (c *ask) even() {
	all := sums{}
	all.putAll(1, c.risks())
	back := &c.tx.Body.Return[0].Value
	back.Assets = nil
	for x, n := range all {
		if x.asset {
			back.Assets = append(back.Assets, as(x.policy, x.name, n.Int64()))
		}
	}
	slices.SortFunc(back.Assets, comparedAssets)
}

func sizeBends(l *bends) {
	l.add(api.Fine, "just as many bytes", func(c *ask) { c.params.TxBytes = int(c.long()) })
	l.add(api.ReasonSize, "one byte too many", func(c *ask) { c.params.TxBytes = int(c.long()) - 1 })
	l.add(api.ReasonSize, "a byte that may be", func(c *ask) { c.params.TxBytes = 1 })
	l.add(api.Fine, "a block of one byte", func(c *ask) { c.params.BlockBytes = 1 })
}

func slotBends(l *bends) {
	for _, x := range []struct {
		slot, from, to int64
		reason         api.Reason
	}{
		{15, 15, 20, api.Fine}, {15, 16, 20, api.ReasonSlot}, {15, 10, 16, api.Fine}, {15, 10, 15, api.ReasonSlot}, {15, 15, 16, api.Fine}, {15, 15, 15, api.ReasonSlot},
		{15, 10, -1, api.Fine}, {15, 15, -1, api.Fine}, {15, 16, -1, api.ReasonSlot}, {15, 20, 10, api.ReasonSlot}, {15, 10, 0, api.ReasonSlot}, {15, 0, 0, api.ReasonSlot},
		{0, 0, -1, api.Fine}, {0, 0, 1, api.Fine}, {0, 0, 0, api.ReasonSlot}, {0, 1, -1, api.ReasonSlot}, {1, 0, 1, api.ReasonSlot},
		{1 << 40, 0, -1, api.Fine}, {1 << 40, 1 << 40, -1, api.Fine}, {1 << 40, 0, 1 << 40, api.ReasonSlot}, {1<<40 - 1, 0, 1 << 40, api.Fine}, {1<<40 - 1, 1 << 40, -1, api.ReasonSlot},
	} {
		l.add(x.reason, fmt.Sprint("at ", x.slot, ", from ", x.from, " to ", x.to), func(c *ask) {
			c.slot, c.tx.Body.From, c.tx.Body.To = x.slot, x.from, x.to
		})
	}
}

func missingBends(l *bends) {
	near := spareKey
	near.Tx[31]++
	for name, x := range map[string]api.Ref{"nowhere": nowhere, "another place": {Tx: spareKey.Tx, Place: 1}, "the Place 30": {Tx: spareKey.Tx, Place: 30}, "another Tx": near} {
		l.add(api.ReasonMissing, "an input at "+name, func(c *ask) { c.tx.Body.Inputs = append(c.tx.Body.Inputs, x) })
		l.add(api.ReasonMissing, "collateral at "+name, func(c *ask) { c.tx.Body.Collateral = append(c.tx.Body.Collateral, x) })
		l.add(api.ReasonMissing, "both at "+name, func(c *ask) {
			c.tx.Body.Inputs, c.tx.Body.Collateral = append(c.tx.Body.Inputs, x), append(c.tx.Body.Collateral, x)
		})
	}
	for i := range 7 {
		l.among(api.ReasonMissing, fmt.Sprint("without the entry ", i), func(c *ask) { c.view = slices.Delete(c.view, i, i+1) })
	}
	l.among(api.ReasonMissing, "no entries", func(c *ask) { c.view = nil })
}

// fullBends is all bends of the full transaction.
func fullBends() bends {
	var l bends
	for _, more := range []func(*bends){
		shapeBends, inputsBends, sizeBends, slotBends, missingBends, valueBends, dataBends, signBends,
		programBends, datumBends, redeemerBends, budgetBends, feeBends, collateralBends, sumBends,
	} {
		more(&l)
	}
	return l
}

// byReason is the bends of each reason.
func byReason(l bends) map[api.Reason]bends {
	all := map[api.Reason]bends{}
	for _, x := range l {
		all[x.reason] = append(all[x.reason], x)
	}
	return all
}

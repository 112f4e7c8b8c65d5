package first_test

import (
	"math/rand"
	"slices"
	"testing"

	"moidore/api"
	"moidore/pack"
)

// anyNumber is some number from 0 to high; its ends, and small ones, come often.
func anyNumber(r *rand.Rand, high int64) int64 {
	return []int64{0, high, min(high, r.Int63n(30)), r.Int63n(high + 1)}[r.Intn(4)]
}

func anyParams(r *rand.Rand) api.Params {
	return api.Params{
		FeeBase: anyNumber(r, 1<<20), FeeByte: anyNumber(r, 1<<20), PriceSteps: anyNumber(r, 1<<20), PriceMemory: anyNumber(r, 1<<20), CoinByte: anyNumber(r, 1<<20),
		Percent: anyNumber(r, 1000), TxBytes: 1 << 18, BlockBytes: 1 + int(anyNumber(r, 1<<18-1)),
		TxBudget: api.Budget{Steps: 1 << 20, Memory: 1 << 20}, Work: int(anyNumber(r, 8)), Deep: int(anyNumber(r, 20)),
	}
}

// anyAssets is some assets that rise, of few names, with Amounts of at most high.
func anyAssets(r *rand.Rand, high int64) []api.Asset {
	var l []api.Asset
	for range r.Intn(4) {
		l = append(l, as(hashOf(prog(2, r.Int63n(3))), []string{"", "a", "b"}[r.Intn(3)], 1+anyNumber(r, high-1)))
	}
	slices.SortFunc(l, comparedAssets)
	return slices.CompactFunc(l, func(a, b api.Asset) bool { return comparedAssets(a, b) == 0 })
}

func comparedAssets(a, b api.Asset) int {
	return slices.Compare([]byte(string(a.Policy[:])+a.Name), []byte(string(b.Policy[:])+b.Name))
}

// anyTaken is some output that may be taken, with few coins.
func anyTaken(r *rand.Rand) api.Output {
	v := val(r.Int63n(3), anyAssets(r, most>>3)...)
	switch r.Intn(5) {
	case 0:
		return locked(prog(3, r.Int63n(4)), num(r.Int63n(40)), v)
	case 1:
		return hashed(prog(3, r.Int63n(4)), num(r.Int63n(6)), v)
	}
	o := keyed(keys[r.Intn(10)], v)
	if r.Intn(4) == 0 {
		o.Datum, o.Term = api.DatumInline, num(3)
	}
	return o
}

// some of many things, at least so many.
func row[T any](r *rand.Rand, least, more int, one func(*rand.Rand) T) []T {
	var l []T
	for range least + r.Intn(more+1) {
		l = append(l, one(r))
	}
	return l
}

// makes is outputs of all that there is, but for the coins: each has just what it needs, or more.
func (c *ask) makes(r *rand.Rand) {
	all := sums{}
	all.putAll(1, c.takes())
	all.put(1, api.Value{Assets: c.tx.Body.Mint})
	l := row(r, 1, 3, func(r *rand.Rand) api.Output {
		o := anyTaken(r)
		o.Value = api.Value{}
		return o
	})
	for x, n := range all {
		if !x.asset {
			continue
		}
		for i := r.Intn(len(l)); n.Sign() > 0; i = r.Intn(len(l)) {
			part := n.Int64()
			if r.Intn(2) == 0 || !n.IsInt64() {
				part = 1 + r.Int63n(most>>1)
			}
			if !n.IsInt64() || part <= n.Int64() {
				l[i].Value.Assets = append(l[i].Value.Assets, as(x.policy, x.name, part))
				n.Sub(n, mul(part, 1))
				l = append(l, keyed(keys[r.Intn(10)], val(0)))
			}
		}
	}
	c.tx.Body.Outputs = nil
	for _, o := range l {
		slices.SortFunc(o.Value.Assets, comparedAssets)
		if same := func(a, b api.Asset) bool { return comparedAssets(a, b) == 0 }; len(slices.CompactFunc(slices.Clone(o.Value.Assets), same)) < len(o.Value.Assets) {
			c.makes(r) // one output got one asset twice
			return
		}
		o.Value.Coin = c.params.CoinByte*int64(pack.Long(o)) + anyNumber(r, 1<<30)*int64(r.Intn(2))
		c.tx.Body.Outputs = append(c.tx.Body.Outputs, o)
	}
}

// anyMint is some assets to be minted, and of those that are taken some to be burnt.
func (c *ask) anyMint(r *rand.Rand) []api.Asset {
	l := anyAssets(r, most>>3)
	all := sums{}
	all.putAll(1, c.takes())
	for i := range l {
		if n := all[called{true, l[i].Policy, l[i].Name}]; n != nil && n.IsInt64() && r.Intn(2) == 0 {
			l[i].Amount = -1 - r.Int63n(n.Int64())
		}
	}
	return l[:len(l)*r.Intn(2)]
}

// risked puts collateral, and a Return where that has assets, or now and then.
func (c *ask) risked(r *rand.Rand) {
	l := row(r, 1, 2, func(r *rand.Rand) api.Output {
		return keyed(keys[r.Intn(10)], val(r.Int63n(3), anyAssets(r, most>>3)...))
	})
	for i, o := range l {
		c.view = append(c.view, entry(ref(20, i), o))
		c.tx.Body.Collateral = append(c.tx.Body.Collateral, ref(20, i))
	}
	back := anyTaken(r)
	back.Value = val(1 << 40)
	c.tx.Body.Return = outputs(back)
	if c.even(); len(c.tx.Body.Return[0].Value.Assets) == 0 && r.Intn(2) == 0 {
		c.tx.Body.Return = nil
	}
}

// anyFine is some transaction that is Fine, not sealed: its fee, and its collateral, may be the least ones.
func anyFine(r *rand.Rand) ask {
	c := ask{params: anyParams(r), slot: anyNumber(r, 1<<40)}
	for i, o := range row(r, 1, 4, anyTaken) {
		c.view = append(c.view, entry(ref(byte(i/2), i), o))
		c.tx.Body.Inputs = append(c.tx.Body.Inputs, ref(byte(i/2), i))
	}
	c.tx.Valid, c.tx.Body.To, c.tx.Body.From = r.Intn(2) == 0, -1, r.Int63n(c.slot+1)
	if r.Intn(2) == 0 && c.slot < 1<<40 {
		c.tx.Body.To = c.slot + 1
	}
	c.tx.Body.Mint = c.anyMint(r)
	c.makes(r)
	if c.fit(); len(c.tx.Redeemers) > 0 {
		c.risked(r)
	}
	for i := range c.tx.Redeemers {
		c.tx.Redeemers[i].Budget = api.Budget{Steps: r.Int63n(1 << 16), Memory: r.Int63n(1 << 16)}
	}
	c.tx.Body.Fee = plainFee(c.params, c.sealed().tx).Int64() + anyNumber(r, 1<<30)*int64(r.Intn(2))
	if c.balance(); c.in(0).Value.Coin < 0 {
		c.poor(c.tx.Body.Inputs)
		c.balance()
	}
	if len(c.tx.Redeemers) > 0 {
		lost := plainStake(c.tx.Body.Fee, c.params.Percent).Int64() + anyNumber(r, 1<<30)*int64(r.Intn(2))
		if c.stake(lost); c.risk(0).Value.Coin < 0 {
			c.poor(c.tx.Body.Collateral)
			c.stake(lost)
		}
	}
	return c
}

// poor lets the outputs at refs have no coins.
func (c *ask) poor(l []api.Ref) {
	for _, x := range l {
		c.at(x).Value.Coin = 0
	}
}

// spoilt is c with some part turned: of the params, the slot, the view, or the transaction, ahead of the data's hash, behind it, or behind the signatures.
func spoilt(r *rand.Rand, c ask) ask {
	one := func() {
		var l []turn
		switch r.Intn(12) {
		case 0:
			l = turns(&c.params)
		case 1:
			l = turns(&c.view)
		case 2:
			c.slot = []int64{-1, 0, c.tx.Body.From - 1, c.tx.Body.To, c.tx.Body.To - 1, 1 << 40, 1<<40 + 1}[r.Intn(7)]
			return
		case 3:
			c.params.TxBytes = int(c.long()) - r.Intn(2)
			return
		case 4:
			c.params.TxBudget.Steps, c.params.TxBudget.Memory = used(c.tx)
			c.params.TxBudget.Steps -= int64(r.Intn(2))
			return
		case 5:
			o := &c.tx.Body.Outputs[r.Intn(len(c.tx.Body.Outputs))]
			o.Value.Coin = max(o.Value.Coin-1, 0)
			c.balance()
			return
		case 6:
			l = turns(&c.tx.Body)
		case 7:
			l = turns(&c.tx.Signatures)
		case 8:
			l = turns(&c.tx.Programs)
		case 9:
			l = turns(&c.tx.Terms)
		default:
			l = turns(&c.tx.Redeemers)
		}
		l[r.Intn(len(l))].do()
	}
	at := r.Intn(5)
	for i, seal := range []func(*ask){(*ask).hash, (*ask).sign, func(*ask) {}} {
		if at == i || at > 2 && i == 0 {
			one()
		}
		seal(&c)
	}
	return c
}

// P15.2, P15.3: any transactions that are Fine, and such as are spoilt, held against the plain telling.
func TestByChance(t *testing.T) {
	t.Parallel()
	r := rand.New(rand.NewSource(1503))
	count := map[api.Reason]int{}
	for range 1800 {
		c := anyFine(r)
		wantKept(t, "by chance", c.sealed())
		c = spoilt(r, c)
		wanted := plain(c)
		if got := c.reason(); got != wanted {
			t.Errorf("%d, not %d of %v: %s", got, wanted, met(c), short(c))
		}
		count[wanted]++
	}
	for x := api.Fine; x <= api.ReasonSum; x++ {
		if count[x] < 5 {
			t.Error(count)
		}
	}
}

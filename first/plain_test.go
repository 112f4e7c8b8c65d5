package first_test

import (
	"maps"
	"math/big"
	"slices"

	"moidore/api"
	"moidore/check"
	"moidore/code"
	"moidore/first"
	"moidore/pack"
	"moidore/tx"
	"moidore/wots"
)

// A plain second telling of the chapter: each reason by itself, as far as what it asks for is there; numbers without ends.

func plainParams(p api.Params) bool {
	for _, x := range []struct{ n, from, to int64 }{
		{p.FeeBase, 0, 1048576}, {p.FeeByte, 0, 1048576}, {p.PriceSteps, 0, 1048576}, {p.PriceMemory, 0, 1048576}, {p.CoinByte, 0, 1048576},
		{p.Percent, 0, 1000}, {int64(p.TxBytes), 1, 262144}, {int64(p.BlockBytes), 1, 262144},
		{p.TxBudget.Steps, 0, 1048576}, {p.TxBudget.Memory, 0, 1048576}, {int64(p.Work), 0, 8}, {int64(p.Deep), 0, 20},
	} {
		if x.n < x.from || x.n > x.to {
			return false
		}
	}
	return true
}

// once is hashes as they rise, each once.
func once(l []api.Hash) []api.Hash {
	there := map[string]bool{}
	for _, x := range l {
		there[string(x[:])] = true
	}
	var all []api.Hash
	for _, s := range slices.Sorted(maps.Keys(there)) {
		all = append(all, api.Hash([]byte(s)))
	}
	return all
}

// outs is the outputs of refs, as far as they are there.
func outs(l []api.Entry, refs ...api.Ref) []api.Output {
	var all []api.Output
	for _, x := range refs {
		if i := slices.IndexFunc(l, func(e api.Entry) bool { return e.Ref == x }); i >= 0 {
			all = append(all, l[i].Output)
		}
	}
	return all
}

func (c ask) takes() []api.Output { return outs(c.view, c.tx.Body.Inputs...) }

func (c ask) risks() []api.Output { return outs(c.view, c.tx.Body.Collateral...) }

func plainOwners(l []api.Entry, t api.Tx) []api.Hash {
	var all []api.Hash
	for _, o := range outs(l, slices.Concat(t.Body.Inputs, t.Body.Collateral)...) {
		if !o.Address.Program {
			all = append(all, o.Address.Hash)
		}
	}
	return once(all)
}

func plainPolicies(l []api.Asset) []api.Hash {
	var all []api.Hash
	for _, a := range l {
		all = append(all, a.Policy)
	}
	return once(all)
}

func lockers(l []api.Output) []api.Hash {
	var all []api.Hash
	for _, o := range l {
		if o.Address.Program {
			all = append(all, o.Address.Hash)
		}
	}
	return all
}

func plainPrograms(c ask) []api.Hash {
	return once(slices.Concat(lockers(c.takes()), plainPolicies(c.tx.Body.Mint)))
}

func plainData(c ask) []api.Hash {
	var all []api.Hash
	for _, o := range c.takes() {
		if o.Address.Program && o.Datum == api.DatumHash {
			all = append(all, o.Hash)
		}
	}
	return once(all)
}

// plainNeeds is the redeemers that are asked for, without their terms and budgets.
func plainNeeds(c ask) []api.Redeemer {
	var all []api.Redeemer
	for i, x := range c.tx.Body.Inputs {
		if len(lockers(outs(c.view, x))) > 0 {
			all = append(all, api.Redeemer{Purpose: api.PurposeSpend, Place: i})
		}
	}
	for i := range plainPolicies(c.tx.Body.Mint) {
		all = append(all, api.Redeemer{Purpose: api.PurposeMint, Place: i})
	}
	return all
}

func falls(l []api.Ref) bool {
	for i := 1; i < len(l); i++ {
		if !pack.Less(l[i-1], l[i]) {
			return true
		}
	}
	return false
}

func mul(a, b int64) *big.Int { return new(big.Int).Mul(big.NewInt(a), big.NewInt(b)) }

func plus(l ...*big.Int) *big.Int {
	all := new(big.Int)
	for _, x := range l {
		all.Add(all, x)
	}
	return all
}

// below says whether n is less than x.
func below(n int64, x *big.Int) bool { return big.NewInt(n).Cmp(x) < 0 }

// called is what there is so much of: coins, if it is not of an asset.
type called struct {
	asset  bool
	policy api.Hash
	name   string
}

// sums is how much there is of each thing.
type sums map[called]*big.Int

func (s sums) add(x called, n *big.Int) {
	if s[x] == nil {
		s[x] = new(big.Int)
	}
	s[x].Add(s[x], n)
	if s[x].Sign() == 0 {
		delete(s, x)
	}
}

// put adds sign times each bundle.
func (s sums) put(sign int64, l ...api.Value) {
	for _, v := range l {
		s.add(called{}, mul(sign, v.Coin))
		for _, a := range v.Assets {
			s.add(called{true, a.Policy, a.Name}, mul(sign, a.Amount))
		}
	}
}

func (s sums) putAll(sign int64, l []api.Output) {
	for _, o := range l {
		s.put(sign, o.Value)
	}
}

// coins is how many there are.
func (s sums) coins() *big.Int {
	if s[called{}] == nil {
		return new(big.Int)
	}
	return s[called{}]
}

// bundle says whether there is a right bundle of just that.
func (s sums) bundle() bool {
	assets := 0
	for x, n := range s {
		if n.Sign() < 0 || !n.IsInt64() {
			return false
		}
		if x.asset {
			assets++
		}
	}
	return assets <= 30
}

func (s sums) assets() bool {
	return slices.ContainsFunc(slices.Collect(maps.Keys(s)), func(x called) bool { return x.asset })
}

// used is what all redeemers may use.
func used(t api.Tx) (steps, memory int64) {
	for _, x := range t.Redeemers {
		steps, memory = steps+x.Budget.Steps, memory+x.Budget.Memory
	}
	return steps, memory
}

// plainFee is the least fee.
func plainFee(p api.Params, t api.Tx) *big.Int {
	b, _ := tx.Put(t)
	steps, memory := used(t)
	price := plus(mul(p.PriceSteps, steps), mul(p.PriceMemory, memory))
	return plus(big.NewInt(p.FeeBase), mul(p.FeeByte, int64(len(b))), price.Div(price, big.NewInt(1000)))
}

// plainStake is how many coins of the collateral are lost at least: the quotient rounded up.
func plainStake(fee, percent int64) *big.Int {
	up := plus(mul(fee, percent), big.NewInt(99))
	return up.Div(up, big.NewInt(100))
}

func metProgram(c ask) bool {
	spent, minted := lockers(c.takes()), plainPolicies(c.tx.Body.Mint)
	var hashes []api.Hash
	for _, p := range c.tx.Programs {
		x, _ := code.Hash(p)
		hashes = append(hashes, x)
		_, _, e := check.Load(p)
		if e != api.OK || slices.Contains(spent, x) && p.Args != 3 || slices.Contains(minted, x) && p.Args != 2 {
			return true
		}
	}
	return !slices.Equal(hashes, plainPrograms(c))
}

func metDatum(c ask) bool {
	for _, o := range c.takes() {
		if o.Address.Program && o.Datum == api.DatumNone {
			return true
		}
	}
	var hashes []api.Hash
	for _, x := range c.tx.Terms {
		hash, _ := first.Hash(x)
		hashes = append(hashes, hash)
	}
	return !slices.Equal(hashes, plainData(c))
}

func metSign(c ask) bool {
	id, _ := tx.Id(c.tx.Body)
	var signed []api.Hash
	for _, s := range c.tx.Signatures {
		x, _ := wots.Owner(s, id)
		signed = append(signed, x)
	}
	return !slices.Equal(signed, plainOwners(c.view, c.tx))
}

func metValue(c ask) bool {
	return slices.ContainsFunc(slices.Concat(c.tx.Body.Outputs, c.tx.Body.Return), func(o api.Output) bool {
		return below(o.Value.Coin, mul(c.params.CoinByte, int64(pack.Long(o))))
	})
}

func metCollateral(c ask) bool {
	l, back := c.risks(), c.tx.Body.Return
	if len(c.tx.Redeemers) == 0 {
		return len(c.tx.Body.Collateral) > 0 || len(back) > 0
	}
	all := sums{}
	all.putAll(1, l)
	if len(c.tx.Body.Collateral) == 0 || len(lockers(l)) > 0 || !all.bundle() {
		return true
	}
	all.putAll(-1, back)
	return !all.bundle() || all.assets() || all.coins().Cmp(plainStake(c.tx.Body.Fee, c.params.Percent)) < 0
}

func metSum(c ask) bool {
	all := sums{}
	all.putAll(1, c.takes())
	all.put(1, api.Value{Assets: c.tx.Body.Mint})
	all.putAll(-1, c.tx.Body.Outputs)
	all.put(-1, val(c.tx.Body.Fee))
	return len(all) > 0
}

// met is all reasons that are met, as they are asked.
func met(c ask) []api.Reason {
	b := c.tx.Body
	bytes, right := tx.Put(c.tx)
	data, _ := tx.Data(c.tx)
	steps, memory := used(c.tx)
	bare := slices.EqualFunc(c.tx.Redeemers, plainNeeds(c), func(x, y api.Redeemer) bool { return x.Purpose == y.Purpose && x.Place == y.Place })
	var all []api.Reason
	for i, is := range []bool{
		!plainParams(c.params) || !pack.RightEntries(c.view) || c.slot < 0 || c.slot > 1<<40 || !right,
		len(b.Inputs) == 0 || falls(b.Inputs) || falls(b.Collateral),
		len(bytes) > c.params.TxBytes,
		c.slot < b.From || b.To >= 0 && c.slot >= b.To,
		len(c.takes()) < len(b.Inputs) || len(c.risks()) < len(b.Collateral),
		metValue(c),
		b.Data != data,
		metSign(c),
		metProgram(c),
		metDatum(c),
		!bare,
		steps > c.params.TxBudget.Steps || memory > c.params.TxBudget.Memory,
		below(b.Fee, plainFee(c.params, c.tx)),
		metCollateral(c),
		metSum(c),
	} {
		if is {
			all = append(all, api.Reason(i+1))
		}
	}
	return all
}

// plain is the first reason that is met.
func plain(c ask) api.Reason { return slices.Concat(met(c), []api.Reason{api.Fine})[0] }

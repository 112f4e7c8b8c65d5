package first_test

import (
	"fmt"
	"testing"

	"moidore/api"
	"moidore/pack"
)

// spent is a transaction that one program locks, with collateral of just so many coins, whose input pays the fee.
func spent(p api.Params, use api.Budget, fee, collateral int64) ask {
	c := moves(outputs(locked(prog(3, 1), num(1), val(fee))), outputs(keyed(keys[0], val(collateral))), nil)
	c.params, c.tx.Body.Fee, c.tx.Redeemers[0].Budget = p, fee, use
	return c
}

// P15.2: what steps and memory cost, together, is rounded down, once.
func TestFeeRounded(t *testing.T) {
	t.Parallel()
	for _, x := range []struct{ priceSteps, steps, priceMemory, memory, fee int64 }{
		{0, 0, 0, 0, 0}, {0, 1 << 20, 0, 1 << 20, 0}, {1 << 20, 0, 1 << 20, 0, 0},
		{1, 999, 0, 0, 0}, {1, 1000, 0, 0, 1}, {1, 1001, 0, 0, 1}, {1, 1999, 0, 0, 1}, {1, 2000, 0, 0, 2},
		{0, 0, 1, 999, 0}, {0, 0, 1, 1000, 1}, {0, 0, 1, 1999, 1}, {0, 0, 1, 2000, 2},
		{1, 500, 1, 499, 0}, {1, 500, 1, 500, 1}, {1, 999, 1, 999, 1}, {1, 999, 1, 1001, 2}, {1, 1999, 1, 1, 2},
		{3, 333, 0, 0, 0}, {3, 334, 0, 0, 1}, {7, 143, 11, 90, 1}, {7, 143, 11, 91, 2}, {999, 1, 1, 1, 1}, {999, 1, 0, 0, 0},
		{1 << 20, 1, 0, 0, 1048}, {1 << 20, 1 << 20, 0, 0, 1099511627}, {1 << 20, 1 << 20, 1 << 20, 1 << 20, 2199023255},
		{1 << 20, 1<<20 - 1, 1 << 20, 1 << 20, 2199022206},
	} {
		for more, wanted := range map[int64]api.Reason{-1: api.ReasonFee, 0: api.Fine, 1: api.Fine} {
			p := cheap()
			p.PriceSteps, p.PriceMemory = x.priceSteps, x.priceMemory
			if x.fee+more < 0 {
				continue
			}
			c := spent(p, api.Budget{Steps: x.steps, Memory: x.memory}, x.fee+more, 0)
			wantAlone(t, fmt.Sprintf("%+v, and %d", x, more), c.sealed(), wanted)
			// Each byte is paid, and the base, beside that.
			c.params.FeeByte, c.params.FeeBase = 5, 1<<20
			c.tx.Body.Fee += 5*c.long() + 1<<20
			c.balance()
			wantAlone(t, fmt.Sprintf("%+v, bytes, a base, and %d", x, more), c.sealed(), wanted)
		}
	}
}

// P15.2: use is that of all redeemers, which together may not pass the budget, each of them being within it.
func TestUseOfAll(t *testing.T) {
	t.Parallel()
	for _, n := range []int64{1, 2, 10, 30} {
		for more, wanted := range map[int64]api.Reason{0: api.Fine, 1: api.ReasonBudget} {
			c := moves(many(int(n), locked(prog(3, 1), num(1), val(0))), outputs(keyed(keys[0], val(1<<40))), nil)
			c.params.PriceSteps, c.params.PriceMemory = 1000, 1<<20
			left := api.Budget{Steps: 1 << 20, Memory: 1 << 20}
			for i := range c.tx.Redeemers {
				c.tx.Redeemers[i].Budget = api.Budget{Steps: left.Steps / (n - int64(i)), Memory: left.Memory / (n - int64(i))}
				left.Steps -= c.tx.Redeemers[i].Budget.Steps
				left.Memory -= c.tx.Redeemers[i].Budget.Memory
			}
			c.tx.Body.Fee = 1<<20 + (1<<40)/1000 + 2000*more
			c.balance()
			if n > 1 || more == 0 {
				c.tx.Redeemers[n/2].Budget.Memory += more
				wantAlone(t, fmt.Sprint(n, " redeemers, and ", more), c.sealed(), wanted)
				c.tx.Redeemers[n/2].Budget.Memory -= more
				c.tx.Redeemers[n-1].Budget.Steps += more
				wantAlone(t, fmt.Sprint(n, " redeemers, and ", more, " steps"), c.sealed(), wanted)
			}
			c = c.sealed()
			c.tx.Body.Fee += more - 1
			c.balance()
			if more == 0 {
				wantAlone(t, fmt.Sprint(n, " redeemers, one coin less"), c.sealed(), api.ReasonFee)
			}
		}
	}
	c := moves(many(30, locked(prog(3, 1), num(1), val(0))), outputs(keyed(keys[0], val(0))), nil)
	for i := range c.tx.Redeemers {
		c.tx.Redeemers[i].Budget = api.Budget{Steps: 1 << 20, Memory: 1 << 20}
	}
	wantAlone(t, "30 times the most", c.sealed(), api.ReasonBudget)
}

// P15.2: what collateral loses at least is rounded up; no product of it passes what there may be.
func TestCollateralRounded(t *testing.T) {
	t.Parallel()
	const far = most/100 + 1 // 100 times that is no int64
	for _, x := range []struct{ fee, percent, lost int64 }{
		{0, 0, 0}, {0, 1000, 0}, {1, 0, 0}, {most, 0, 0}, {1, 1, 1}, {1, 99, 1}, {1, 100, 1}, {1, 101, 2}, {2, 50, 1}, {2, 51, 2}, {3, 50, 2},
		{99, 1, 1}, {100, 1, 1}, {101, 1, 2}, {199, 1, 2}, {200, 1, 2}, {201, 1, 3}, {10, 150, 15}, {11, 150, 17}, {7, 1000, 70}, {33, 999, 330},
		{most, 1, 92233720368547759}, {most, 50, 1 << 62}, {most, 99, 9131138316486228049}, {most, 100, most}, {most - 1, 100, most - 1}, {most / 10, 1000, most / 10 * 10},
		{1 << 61, 8, 184467440737095517}, {1 << 62, 4, 184467440737095517}, {1 << 60, 16, 184467440737095517}, {1 << 62, 200, -1},
		{far, 100, far}, {far - 1, 100, far - 1}, {far, 1, 922337203685478}, {most / 1000, 1000, most / 1000 * 10}, {most/1000 + 1, 1000, (most/1000 + 1) * 10},
		{most, 101, -1}, {most, 200, -1}, {most, 1000, -1}, {most/10 + 1, 1000, -1},
	} {
		p := cheap()
		p.Percent = x.percent
		for more, wanted := range map[int64]api.Reason{-1: api.ReasonCollateral, 0: api.Fine, 1: api.Fine} {
			name := fmt.Sprintf("%+v, and %d", x, more)
			if x.lost < 0 { // more than there may be
				wantAlone(t, name, spent(p, api.Budget{}, x.fee, most-1-more).sealed(), api.ReasonCollateral)
				continue
			}
			if x.lost+more < 0 { // it may be most + 1 as well
				continue
			}
			c := spent(p, api.Budget{}, x.fee, x.lost+more)
			wantAlone(t, name, c.sealed(), wanted)
			if x.lost < most/2 {
				c.tx.Body.Return = outputs(keyed(keys[3], val(most/2)))
				wantAlone(t, name+", all of it as a Return beside it", c.sealed(), api.ReasonCollateral)
				c.stake(x.lost + more)
				wantAlone(t, name+", with a Return", c.sealed(), wanted)
			}
		}
	}
}

// P15.2, P15.3: sums that no int64 holds are exact.
func TestSums(t *testing.T) {
	t.Parallel()
	policy := hashOf(prog(2, 1))
	coins := func(l ...int64) []api.Output {
		var all []api.Output
		for i, n := range l {
			all = append(all, keyed(keys[i], val(n)))
		}
		return all
	}
	assets := func(l ...int64) []api.Output {
		var all []api.Output
		for i, n := range l {
			all = append(all, keyed(keys[i], val(0, as(policy, "a", n))))
		}
		return all
	}
	risk := coins(0)
	for name, x := range map[string]struct {
		c      ask
		fee    int64
		wanted api.Reason
	}{
		"2^63 - 1 twice":                  {moves(coins(most, most), nil, coins(most, most-20)), 20, api.Fine},
		"2^63 - 1 twice, one more":        {moves(coins(most, most), nil, coins(most, most-19)), 20, api.ReasonSum},
		"2^63 - 1 twice, the fee of one":  {moves(coins(most, most), nil, coins(most)), most, api.Fine},
		"all for the fee":                 {moves(coins(most), nil, nil), most, api.Fine},
		"more for the fee than there is":  {moves(coins(most-1), nil, nil), most, api.ReasonSum},
		"30 times the most":               {moves(coins(many[int64](30, most)...), nil, coins(many[int64](29, most)...)), most, api.Fine},
		"30 times the most, one less":     {moves(coins(many[int64](30, most)...), nil, coins(many[int64](29, most)...)), most - 1, api.ReasonSum},
		"2^64 more":                       {moves(coins(most, most, 7), nil, coins(5)), 0, api.ReasonSum},
		"2^64 less":                       {moves(coins(5), nil, coins(most, most, 7)), 0, api.ReasonSum},
		"2^64 less, by the fee":           {moves(coins(5), nil, coins(most, 7)), most, api.ReasonSum},
		"an asset's most, twice":          {moves(assets(most, most), nil, assets(most, most-1, 1)), 0, api.Fine},
		"an asset's most, one more":       {moves(assets(most, most), nil, assets(most, most, 1)), 0, api.ReasonSum},
		"2^64 of an asset more":           {moves(assets(most, most, 3), nil, assets(1)), 0, api.ReasonSum},
		"2^64 of an asset less":           {moves(assets(1), nil, assets(most, most, 3)), 0, api.ReasonSum},
		"2^63 - 1 minted":                 {moves(assets(most), risk, assets(most, most), as(policy, "a", most)), 0, api.Fine},
		"2^63 - 1 minted, one less":       {moves(assets(most), risk, assets(most, most-1), as(policy, "a", most)), 0, api.ReasonSum},
		"2^63 burnt":                      {moves(assets(most, 1), risk, nil, as(policy, "a", least)), 0, api.Fine},
		"2^63 burnt, of more":             {moves(assets(most, 3), risk, assets(2), as(policy, "a", least)), 0, api.Fine},
		"2^63 burnt, of one less":         {moves(assets(most), risk, nil, as(policy, "a", least)), 0, api.ReasonSum},
		"2^63 burnt, 2^63 come":           {moves(coins(0), risk, assets(most, 1), as(policy, "a", least)), 0, api.ReasonSum},
		"minted and minted away":          {moves(coins(0), risk, assets(1), as(policy, "a", 1)), 0, api.Fine},
		"coins for an asset":              {moves(coins(1), nil, assets(1)), 0, api.ReasonSum},
		"an asset for coins":              {moves(assets(1), nil, coins(1)), 0, api.ReasonSum},
		"an asset that is lost":           {moves(assets(1), nil, coins(0)), 0, api.ReasonSum},
		"an asset of another policy":      {moves(assets(1), nil, outputs(keyed(keys[0], val(0, as(h(1, 1), "a", 1))))), 0, api.ReasonSum},
		"31 assets of many, moved":        {moves(outputs(keyed(keys[0], val(0, some(30, 1)...)), assets(1)[0]), nil, outputs(keyed(keys[0], val(0, some(30, 1)...)), assets(1)[0])), 0, api.Fine},
		"what collateral has is not here": {moves(coins(0), coins(5), assets(1), as(policy, "a", 1)), 5, api.ReasonSum},
	} {
		x.c.tx.Body.Fee = x.fee
		wantAlone(t, name, x.c.sealed(), x.wanted)
	}
}

// P15.2: what an output must have grows with its bytes, up to the most for each byte.
func TestCoinByte(t *testing.T) {
	t.Parallel()
	for _, o := range []api.Output{
		keyed(keys[0], val(0)), keyed(keys[0], val(0, some(1, 1)...)), keyed(keys[0], val(0, some(30, most)...)),
		hashed(prog(3, 1), num(1), val(0)), locked(prog(3, 1), num(1), val(0)), locked(prog(3, 1), heavy(), val(0)), {Datum: api.DatumInline, Term: text("ab")},
	} {
		for _, n := range []int64{0, 1, 1000, 1 << 20} {
			need := n * int64(pack.Long(o))
			for more, wanted := range map[int64]api.Reason{-1: api.ReasonValue, 0: api.Fine, 1: api.Fine} {
				if need+more < 0 {
					continue
				}
				o := o
				o.Value.Coin = need + more
				c := moves(outputs(keyed(keys[0], o.Value)), nil, outputs(o))
				c.params.CoinByte = n
				wantAlone(t, fmt.Sprint(need, " coins, and ", more), c.sealed(), wanted)
				c.tx.Body.Outputs = outputs(keyed(keys[1], val(44*n)), o, keyed(keys[2], val(44*n)))
				c.balance()
				wantAlone(t, fmt.Sprint(need, " coins, and ", more, ", amid others"), c.sealed(), wanted)
				// What is taken needs nothing, nor does collateral.
				c = moves(outputs(locked(prog(3, 1), num(1), val(0))), outputs(keyed(keys[0], o.Value)), nil)
				c.params.CoinByte, c.tx.Body.Return = n, outputs(o)
				wantAlone(t, fmt.Sprint("a Return of ", need, " coins, and ", more), c.sealed(), wanted)
			}
		}
	}
}

package first_test

import (
	"fmt"
	"slices"

	"moidore/api"
	"moidore/pack"
)

func valueBends(l *bends) {
	need := func(c *ask, o api.Output) int64 { return c.params.CoinByte * int64(pack.Long(o)) }
	for i := range 3 {
		for less, wanted := range map[int64]api.Reason{0: api.Fine, 1: api.ReasonValue} {
			l.add(wanted, fmt.Sprint("the output ", i, " with ", -less, " coins more than it needs"), func(c *ask) {
				o := &c.tx.Body.Outputs[i]
				o.Value.Coin = need(c, *o) - less
				c.balance()
			})
		}
		l.add(api.ReasonValue, fmt.Sprint("the output ", i, " without coins"), func(c *ask) {
			c.tx.Body.Outputs[i].Value.Coin = 0
			c.balance()
		})
	}
	for less, wanted := range map[int64]api.Reason{0: api.Fine, 1: api.ReasonValue} {
		l.add(wanted, fmt.Sprint("the Return with ", -less, " coins more than it needs"), func(c *ask) {
			o := &c.tx.Body.Return[0]
			o.Value.Coin = need(c, *o) - less
		})
	}
	l.add(api.Fine, "nothing for a byte, outputs without coins", func(c *ask) {
		c.params.CoinByte, c.tx.Body.Return[0].Value.Coin = 0, 0
		for i := range c.tx.Body.Outputs {
			c.tx.Body.Outputs[i].Value.Coin = 0
		}
		c.balance()
	})
	// What is taken is not asked: the entries without coins stand in the view already.
	l.add(api.Fine, "an output of many bytes", func(c *ask) {
		o := &c.tx.Body.Outputs[1]
		o.Term = heavy()
		o.Value.Coin = need(c, *o)
		c.balance()
	})
}

func budgetBends(l *bends) {
	for less, wanted := range map[int64]api.Reason{0: api.Fine, 1: api.ReasonBudget, 100: api.ReasonBudget} {
		use := func(c *ask, steps, memory int64) {
			u, m := used(c.tx)
			c.params.TxBudget = api.Budget{Steps: u - steps, Memory: m - memory}
		}
		l.add(wanted, fmt.Sprint(less, " steps beyond the budget"), func(c *ask) { use(c, less, 0) })
		l.add(wanted, fmt.Sprint(less, " memory beyond the budget"), func(c *ask) { use(c, 0, less) })
		l.add(wanted, fmt.Sprint(less, " of both beyond the budget"), func(c *ask) { use(c, less, less) })
	}
	for i := range 5 {
		l.add(api.ReasonBudget, fmt.Sprint("one step more of the redeemer ", i), func(c *ask) {
			c.params.TxBudget.Steps, c.params.TxBudget.Memory = used(c.tx)
			c.tx.Redeemers[i].Budget.Steps++
		})
		l.add(api.ReasonBudget, fmt.Sprint("one memory more of the redeemer ", i), func(c *ask) {
			c.params.TxBudget.Steps, c.params.TxBudget.Memory = used(c.tx)
			c.tx.Redeemers[i].Budget.Memory++
		})
	}
	l.add(api.ReasonBudget, "no budget", func(c *ask) { c.params.TxBudget = api.Budget{} })
	l.add(api.Fine, "no budget, and no use", func(c *ask) {
		c.params.TxBudget = api.Budget{}
		for i := range c.tx.Redeemers {
			c.tx.Redeemers[i].Budget = api.Budget{}
		}
	})
}

func feeBends(l *bends) {
	for more, wanted := range map[int64]api.Reason{-1: api.ReasonFee, 0: api.Fine, 1: api.Fine} {
		l.add(wanted, fmt.Sprint("a fee ", more, " above the least"), func(c *ask) {
			c.tx.Body.Fee = plainFee(c.params, c.sealed().tx).Int64() + more
			c.balance()
		})
	}
	l.add(api.ReasonFee, "no fee", func(c *ask) {
		c.tx.Body.Fee = 0
		c.balance()
	})
	for _, n := range []int64{-1, 0} {
		wanted := []api.Reason{api.Fine, api.ReasonFee}[-n]
		l.add(wanted, fmt.Sprint("FeeBase alone, the fee ", n, " above it"), func(c *ask) {
			c.params.FeeByte, c.params.PriceSteps, c.params.PriceMemory, c.params.FeeBase = 0, 0, 0, 100000-n
		})
		l.add(wanted, fmt.Sprint("bytes alone, the fee ", n, " above it"), func(c *ask) {
			c.params.FeeBase, c.params.PriceSteps, c.params.PriceMemory = 0, 0, 0
			c.tx.Body.Fee = 2*c.long() + n
			c.balance()
		})
		l.add(wanted, fmt.Sprint("steps alone, the fee ", n, " above it"), func(c *ask) {
			c.params.FeeBase, c.params.FeeByte, c.params.PriceMemory = 0, 0, 0
			c.tx.Body.Fee = 7*(5*1000+0+1+2+3+4)/1000 + n
			c.balance()
		})
		l.add(wanted, fmt.Sprint("memory alone, the fee ", n, " above it"), func(c *ask) {
			c.params.FeeBase, c.params.FeeByte, c.params.PriceSteps = 0, 0, 0
			c.tx.Body.Fee = 11*(5*500+0+1+2+3+4)/1000 + n
			c.balance()
		})
	}
}

func collateralBends(l *bends) {
	back := func(c *ask) *api.Value { return &c.tx.Body.Return[0].Value }
	for more, wanted := range map[int64]api.Reason{-1: api.ReasonCollateral, 0: api.Fine, 1: api.Fine} {
		l.add(wanted, fmt.Sprint("collateral ", more, " above the least"), func(c *ask) { c.stake(150000 + more) })
		l.add(wanted, fmt.Sprint("collateral ", more, " above the least, rounded up"), func(c *ask) {
			c.tx.Body.Fee = 100001 // 150001.5
			c.balance()
			c.stake(150002 + more)
		})
		l.add(wanted, fmt.Sprint("a Return ", -more, " below the most"), func(c *ask) { back(c).Coin += 250000 - more })
		l.add(wanted, fmt.Sprint("collateral without a Return, ", more, " above the least"), func(c *ask) {
			c.tx.Body.Return, c.risk(0).Value.Assets = nil, nil
			c.stake(150000 + more)
		})
	}
	l.add(api.ReasonCollateral, "a Return of more coins", func(c *ask) { back(c).Coin = c.risk(0).Value.Coin + c.risk(1).Value.Coin + 1 })
	l.add(api.ReasonCollateral, "a Return of all coins", func(c *ask) { back(c).Coin = c.risk(0).Value.Coin + c.risk(1).Value.Coin })
	l.add(api.ReasonCollateral, "no Return of assets", func(c *ask) { c.tx.Body.Return = nil })
	l.add(api.ReasonCollateral, "a Return without assets", func(c *ask) { back(c).Assets = nil })
	l.add(api.ReasonCollateral, "a Return of fewer assets", func(c *ask) { back(c).Assets = back(c).Assets[:1] })
	l.add(api.ReasonCollateral, "a Return of other assets", func(c *ask) { back(c).Assets[1].Name = "y" })
	l.add(api.ReasonCollateral, "a Return of more assets", func(c *ask) { back(c).Assets = append(back(c).Assets, as(h(9, 9), "zz", 1)) })
	for _, n := range []int64{-1, 1} {
		l.add(api.ReasonCollateral, fmt.Sprint("a Return of an asset with ", n, " more"), func(c *ask) { back(c).Assets[1].Amount += n })
	}
	l.add(api.ReasonCollateral, "collateral of two that a program locks", func(c *ask) { c.tx.Body.Collateral = append(c.tx.Body.Collateral, spareProgram) })
	l.add(api.ReasonCollateral, "collateral that a program locks", func(c *ask) {
		c.tx.Body.Collateral = []api.Ref{spareProgram}
		c.tx.Body.Return = nil
		c.stake(400000)
	})
	l.add(api.ReasonCollateral, "no collateral", func(c *ask) { c.tx.Body.Collateral, c.tx.Body.Return = nil, nil })
	l.add(api.ReasonCollateral, "no collateral, and a Return", func(c *ask) { c.tx.Body.Collateral = nil })
	l.add(api.ReasonCollateral, "no collateral, nothing to lose", func(c *ask) {
		c.params.Percent = 0
		c.tx.Body.Collateral, c.tx.Body.Return = nil, nil
	})
	l.add(api.Fine, "nothing to lose", func(c *ask) {
		c.params.Percent = 0
		c.stake(0)
	})
	greatCollateral(l)
}

func greatCollateral(l *bends) {
	risk := func(c *ask, a, b int64) { c.risk(0).Value.Coin, c.risk(1).Value.Coin = a, b }
	l.add(api.Fine, "the most collateral", func(c *ask) { risk(c, most-1, 1) })
	l.add(api.ReasonCollateral, "more collateral than there may be", func(c *ask) { risk(c, most, 1) })
	l.add(api.ReasonCollateral, "twice the most collateral, and the most back", func(c *ask) {
		risk(c, most, most)
		c.tx.Body.Return[0].Value.Coin = most
	})
	// Where nothing must be lost, what can not be added, or taken, is none all the same.
	l.add(api.ReasonCollateral, "more collateral than there may be, nothing to lose", func(c *ask) {
		risk(c, most, 1)
		c.risk(0).Value.Assets, c.tx.Body.Return, c.params.Percent = nil, nil, 0
	})
	l.add(api.ReasonCollateral, "31 assets in all as collateral, nothing to lose", func(c *ask) {
		c.risk(0).Value.Assets, c.risk(1).Value.Assets = some(30, 1), []api.Asset{as(h(9, 9), "", 1)}
		c.tx.Body.Return, c.params.Percent = nil, 0
	})
	for n, wanted := range map[int64]api.Reason{0: api.Fine, 1: api.ReasonCollateral} {
		l.add(wanted, fmt.Sprint("a Return of all coins, and ", n, ", nothing to lose"), func(c *ask) {
			c.params.Percent, c.tx.Body.Return[0].Value.Coin = 0, c.risk(0).Value.Coin+c.risk(1).Value.Coin+n
		})
		l.add(wanted, fmt.Sprint("a Return of ", n, " more of an asset, nothing to lose"), func(c *ask) {
			c.params.Percent = 0
			c.tx.Body.Return[0].Value.Assets[0].Amount += n
		})
	}
	for n, wanted := range map[int]api.Reason{28: api.Fine, 29: api.ReasonCollateral} {
		l.add(wanted, fmt.Sprint(n+2, " assets in all as collateral"), func(c *ask) {
			c.risk(1).Value.Assets = some(n, 1)
			c.tx.Body.Return[0].Value.Assets = append(some(min(n, 28), 1), c.risk(0).Value.Assets...)
		})
	}
	for n, wanted := range map[int64]api.Reason{most - 5: api.Fine, most - 4: api.ReasonCollateral} {
		l.add(wanted, fmt.Sprint(n, " and 5 of one asset as collateral"), func(c *ask) {
			c.risk(1).Value.Assets = []api.Asset{as(h(9, 9), "", n)}
			c.tx.Body.Return[0].Value.Assets[0].Amount = most
		})
	}
}

func sumBends(l *bends) {
	for _, n := range []int64{-1, 1} {
		l.add(api.ReasonSum, fmt.Sprint(n, " coins more in an output"), func(c *ask) { c.tx.Body.Outputs[2].Value.Coin += n })
		l.add(api.ReasonSum, fmt.Sprint(n, " coins more in an input"), func(c *ask) { c.in(3).Value.Coin += n })
		l.add(api.ReasonSum, fmt.Sprint("the fee ", n, " more"), func(c *ask) { c.tx.Body.Fee += n })
		l.add(api.ReasonSum, fmt.Sprint(n, " more of an asset in an output"), func(c *ask) { c.tx.Body.Outputs[2].Value.Assets[1].Amount += n })
		l.add(api.ReasonSum, fmt.Sprint(n, " more of an asset in an input"), func(c *ask) { c.in(1).Value.Assets[0].Amount += n })
		for i := range 3 {
			l.add(api.ReasonSum, fmt.Sprint(n, " more minted of the asset ", i), func(c *ask) { c.tx.Body.Mint[i].Amount += n })
		}
	}
	l.add(api.ReasonSum, "another name minted", func(c *ask) { c.tx.Body.Mint[0].Name = "a" })
	l.add(api.ReasonSum, "another asset in an output", func(c *ask) { c.tx.Body.Outputs[0].Value.Assets[0].Name = "y" })
	l.add(api.ReasonSum, "another asset in an input", func(c *ask) { c.in(2).Value.Assets[0].Name = "y" })
	l.add(api.ReasonSum, "an asset more in an output", func(c *ask) { c.tx.Body.Outputs[1].Value.Assets = some(1, 1) })
	l.add(api.ReasonSum, "an asset more in an input", func(c *ask) { c.in(0).Value.Assets = some(1, 1) })
	l.add(api.ReasonSum, "less minted", func(c *ask) { c.tx.Body.Mint = slices.Delete(c.tx.Body.Mint, 1, 2) })
	l.add(api.ReasonSum, "an output less", func(c *ask) { c.tx.Body.Outputs = c.tx.Body.Outputs[1:] })
	l.add(api.ReasonSum, "no outputs", func(c *ask) { c.tx.Body.Outputs = nil })
	l.add(api.ReasonSum, "the most coins in an input", func(c *ask) { c.in(0).Value.Coin = most })
	l.add(api.Fine, "assets in another output", func(c *ask) {
		o := c.tx.Body.Outputs
		o[0].Value.Assets, o[2].Value.Assets = o[2].Value.Assets, o[0].Value.Assets
	})
	l.add(api.Fine, "as much in two outputs as in one", func(c *ask) {
		o := &c.tx.Body.Outputs
		*o = append(*o, (*o)[0])
		(*o)[0].Value, (*o)[3].Value = val(4000, (*o)[0].Value.Assets[:1]...), val(6000, (*o)[0].Value.Assets[1:]...)
	})
}

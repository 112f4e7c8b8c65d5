package first

import (
	"math/bits"

	"moidore/api"
	"moidore/value"
)

// Of what prices and percents are.
const (
	perPrice   = 1000
	perPercent = 100
)

func (a *asker) budget() {
	for _, r := range a.Redeemers {
		a.used.Steps += r.Budget.Steps
		a.used.Memory += r.Budget.Memory
	}
	must(api.ReasonBudget, a.used.Steps <= a.params.TxBudget.Steps, a.used.Memory <= a.params.TxBudget.Memory)
}

func (a *asker) fee() {
	p := a.params
	run := (p.PriceSteps*a.used.Steps + p.PriceMemory*a.used.Memory) / perPrice
	must(api.ReasonFee, a.Body.Fee >= p.FeeBase+p.FeeByte*a.long+run)
}

// collateral is asked just of what runs programs: nothing else can go wrong so late that it must be paid for.
func (a *asker) collateral() {
	if len(a.Redeemers) == 0 {
		must(api.ReasonCollateral, len(a.Body.Collateral) == 0, len(a.Body.Return) == 0)
		return
	}
	must(api.ReasonCollateral, len(a.risks) > 0, len(locks(true, a.risks...)) == 0)
	lost, is := value.Add(bundles(a.risks)...)
	must(api.ReasonCollateral, is)
	for _, back := range bundles(a.Body.Return) {
		lost, is = value.Sub(lost, back)
	}
	must(api.ReasonCollateral, is, len(lost.Assets) == 0, a.pays(lost.Coin))
}

// pays says whether coins are at least Percent of the fee. A whole number is at least a quotient rounded up just if it is at least the quotient, so that nothing is divided; the products may be more than an int64 holds.
func (a *asker) pays(coins int64) bool {
	return value.Cmp(times(coins, perPercent), times(a.Body.Fee, a.params.Percent)) >= 0
}

// times is the product of two numbers that are 0 or more.
func times(m, n int64) api.Wide {
	hi, lo := bits.Mul64(uint64(m), uint64(n))
	return api.Wide{Hi: int64(hi), Lo: lo}
}

func (a *asker) sum() {
	must(api.ReasonSum, value.Balance(bundles(a.takes), a.Body.Mint, bundles(a.Body.Outputs), a.Body.Fee))
}

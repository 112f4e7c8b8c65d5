package first_test

import (
	"fmt"
	"slices"
	"sync"
	"testing"

	"moidore/api"
)

// P15.2: each reason, met alone, at its edges, and just within them.
func TestReasons(t *testing.T) {
	t.Parallel()
	alone := map[api.Reason]int{}
	for _, x := range fullBends() {
		c := bent(full(), x)
		if !x.alone {
			wantReason(t, x.name, c, x.reason)
			continue
		}
		wantAlone(t, x.name, c, x.reason)
		alone[x.reason]++
	}
	for r := range api.ReasonFlag {
		if alone[r] < 2 {
			t.Errorf("the reason %d: %d times alone", r, alone[r])
		}
	}
}

// pair is two reasons, the first one of which is told where both are met.
type pair struct{ first, other api.Reason }

// pairs is all pairs that bends meet, two at once; what is told is asked as well.
func pairs(t *testing.T, l, others bends) map[pair]bool {
	all := map[pair]bool{}
	for _, x := range l {
		for _, y := range others {
			c, fits := both(x, y)
			if !fits {
				continue
			}
			got, is := c.reason(), met(c)
			if len(is) == 0 || got != is[0] {
				t.Errorf("%s, and %s: %d of %v", x.name, y.name, got, is)
			}
			for _, r := range is {
				all[pair{got, r}] = true
			}
		}
	}
	return all
}

// both is what two bends do, and whether the one leaves what the other one needs.
func both(x, y bend) (c ask, fits bool) {
	defer func() { fits = recover() == nil }()
	return bent(full(), x, y), true
}

// P15.2: of each two reasons that are met the one is told that stands first in the table.
func TestPairs(t *testing.T) {
	t.Parallel()
	of := byReason(fullBends())
	var lock sync.Mutex
	var done sync.WaitGroup
	all := map[pair]bool{}
	for a := api.ReasonShape; a < api.ReasonSum; a++ {
		for b := a + 1; b <= api.ReasonSum; b++ {
			done.Go(func() {
				seen := pairs(t, spread(of[a], 5), spread(of[b], 5))
				lock.Lock()
				defer lock.Unlock()
				for x := range seen {
					all[x] = true
				}
			})
		}
	}
	done.Wait()
	for a := api.ReasonShape; a < api.ReasonSum; a++ {
		for b := a + 1; b <= api.ReasonSum; b++ {
			if !all[pair{a, b}] {
				t.Errorf("%d and %d are never met at once", a, b)
			}
		}
	}
}

// spread is at most n bends out of all, from one end to the other.
func spread(l bends, n int) bends {
	var some bends
	for i := range n {
		some = append(some, l[i*(len(l)-1)/(n-1)])
	}
	return some
}

// P15.2: each reason and all that stand behind it at once.
func TestAllBehind(t *testing.T) {
	t.Parallel()
	meets := map[api.Reason]func(*ask){
		api.ReasonShape:      func(c *ask) { c.params.Work = 9 },
		api.ReasonInputs:     func(c *ask) { c.tx.Body.Collateral = append(c.tx.Body.Collateral, ref(4, 0)) },
		api.ReasonSize:       func(c *ask) { c.params.TxBytes = 1 },
		api.ReasonSlot:       func(c *ask) { c.slot = 1 },
		api.ReasonMissing:    func(c *ask) { c.tx.Body.Inputs = append(c.tx.Body.Inputs, nowhere) },
		api.ReasonValue:      func(c *ask) { c.tx.Body.Outputs[0].Value.Coin = 0 },
		api.ReasonData:       func(c *ask) { c.tx.Body.Data = h(1, 1) },
		api.ReasonSign:       func(c *ask) { c.tx.Signatures = nil },
		api.ReasonProgram:    func(c *ask) { c.tx.Programs = nil },
		api.ReasonDatum:      func(c *ask) { c.tx.Terms = nil },
		api.ReasonRedeemer:   func(c *ask) { c.tx.Redeemers = c.tx.Redeemers[1:] },
		api.ReasonBudget:     func(c *ask) { c.params.TxBudget.Steps = 1 },
		api.ReasonFee:        func(c *ask) { c.tx.Body.Fee = 1 },
		api.ReasonCollateral: func(c *ask) { c.tx.Body.Return[0].Value.Assets = nil },
		api.ReasonSum:        func(c *ask) { c.tx.Body.Mint[0].Amount++ },
	}
	for from := api.ReasonShape; from <= api.ReasonSum; from++ {
		c := full()
		var wanted []api.Reason
		for r := from; r <= api.ReasonSum; r++ {
			wanted = append(wanted, r)
			if r != api.ReasonData && r != api.ReasonSign {
				meets[r](&c)
			}
		}
		if c.hash(); from <= api.ReasonData {
			meets[api.ReasonData](&c)
		}
		if c.sign(); from <= api.ReasonSign {
			meets[api.ReasonSign](&c)
		}
		if l := met(c); !slices.Equal(l, wanted) {
			t.Errorf("from %d on: meets %v", from, l)
		}
		wantReason(t, fmt.Sprint("all from ", from, " on"), c, from)
	}
}

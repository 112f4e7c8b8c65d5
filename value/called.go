package value

import (
	"bytes"
	"cmp"

	"moidore/api"
)

// called is what an asset is called.
type called struct {
	policy api.Hash
	name   string
}

func callAsset(a api.Asset) called { return called{a.Policy, a.Name} }

func callTotal(t api.Total) called { return called{t.Policy, t.Name} }

// order is -1, 0, 1, as c stands ahead of d, is d, behind it.
func (c called) order(d called) int {
	return cmp.Or(bytes.Compare(c.policy[:], d.policy[:]), cmp.Compare(c.name, d.name))
}

// wellCalled says whether a row's names rise, none of them is too long, and each one of the row is as is asks.
func wellCalled[T any](row []T, call func(T) called, is func(T) bool) bool {
	for i, x := range row {
		c := call(x)
		if len(c.name) > api.MaxName || !is(x) {
			return false
		}
		if i > 0 && call(row[i-1]).order(c) >= 0 {
			return false
		}
	}
	return true
}

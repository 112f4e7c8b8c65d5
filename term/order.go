package term

import (
	"cmp"

	"moidore/api"
	"moidore/float"
)

// ahead is -1, 0, 1, as the one of two terms in order stands ahead of the other. Both rows are gone through side by side: as long as their nodes are alike, they lie alike.
func ahead(a, b []api.Node) int {
	// left is how many terms of both are still to come, and end what it is if these are alike. Where two nodes have unlike numbers of kids, just the kids that both have are to come: what stands behind them plays no part any more.
	end, left := 0, 1
	for i := 0; left > 0; i++ {
		x, y := a[i], b[i]
		if o := parts(x, y); o != 0 {
			return o
		}
		if x.Kids == y.Kids {
			left += x.Kids - 1
		} else {
			end, left = cmp.Compare(x.Kids, y.Kids), min(x.Kids, y.Kids)
		}
	}
	return end
}

// parts is -1, 0, 1, as the one of two nodes stands ahead by what it has beside kids.
func parts(x, y api.Node) int {
	return cmp.Or(
		cmp.Compare(x.Kind, y.Kind),
		cmp.Compare(x.Int, y.Int),
		float.Order(x.Bits, y.Bits),
		cmp.Compare(x.Bytes, y.Bytes),
	)
}

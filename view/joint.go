package view

import (
	"math"

	"moidore/api"
	"moidore/pack"
	"moidore/value"
)

// joint is diffs at work, joined.
type joint struct {
	spent, made    entries
	fees, forfeits int64
	mints          [][]api.Total // of each one: sums of rows hang on no order, so that they are merged at once in the end
}

// joined is diffs, one behind the other; it throws one that does not fit behind those ahead of it.
func joined(diffs ...api.Diff) *joint {
	j := &joint{spent: entries{}, made: entries{}}
	for _, d := range diffs {
		j.join(d)
	}
	return j
}

// join puts d behind what is joined. That is right, whatever was joined, so that just d is asked.
func (j *joint) join(d api.Diff) {
	must(pack.RightDiff(d))
	j.spend(d.Spent...)
	j.make(d.Made...)
	j.fees, j.forfeits = sum(j.fees, d.Fees), sum(j.forfeits, d.Forfeits)
	j.mints = append(j.mints, d.Mint)
}

// spend lets what was made here go just so, as if it had never been; what stood there ahead of it all is spent.
func (j *joint) spend(l ...api.Entry) {
	for _, e := range l {
		if j.made.has(e.Ref) {
			j.made.take(e)
		} else {
			j.spent.put(e)
		}
	}
}

// make makes what was neither made nor spent here.
func (j *joint) make(l ...api.Entry) {
	for _, e := range l {
		must(!j.spent.has(e.Ref))
		j.made.put(e)
	}
}

// sum is the sum of two numbers that are 0 or more; it throws one that does not fit.
func sum(a, b int64) int64 {
	must(a <= math.MaxInt64-b)
	return a + b
}

func (j *joint) diff() api.Diff {
	return api.Diff{Spent: j.spent.rising(), Made: j.made.rising(), Fees: j.fees, Forfeits: j.forfeits, Mint: value.Merge(j.mints...)}
}

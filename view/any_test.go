package view_test

import (
	"math/rand"
	"slices"

	"moidore/api"
)

// anyOutput is some right output.
func anyOutput(r *rand.Rand) api.Output {
	l := rightOutputs()
	o := l[r.Intn(len(l))]
	if r.Intn(2) == 0 {
		o.Value.Coin = r.Int63()
	}
	return o
}

// anyOf is entries at some of the refs, one at each of them with the one of so many chances, outputs being any.
func anyOf(r *rand.Rand, refs []api.Ref, chances int) []api.Entry {
	var l []api.Entry
	for _, x := range refs {
		if r.Intn(chances) == 0 {
			l = append(l, entry(x, anyOutput(r)))
		}
	}
	return l
}

func refsOf(l []api.Entry) []api.Ref {
	var refs []api.Ref
	for _, e := range l {
		refs = append(refs, e.Ref)
	}
	return refs
}

// without is the refs but some.
func without(refs, some []api.Ref) []api.Ref {
	return slices.DeleteFunc(slices.Clone(refs), func(x api.Ref) bool { return slices.Contains(some, x) })
}

// anyTotals is some totals of few names, so that sums of some are 0.
func anyTotals(r *rand.Rand) []api.Total {
	var l []api.Total
	for _, name := range []string{"", "a", "a\x00", "b"} {
		if hi := r.Int63n(3) - 1; r.Intn(3) == 0 {
			l = append(l, tot(byte(len(l)), name, hi, []uint64{1, 1<<64 - 1}[r.Intn(2)]))
		}
	}
	return l
}

// anyDiff is some right diff of some refs.
func anyDiff(r *rand.Rand, refs []api.Ref) api.Diff {
	spent := anyOf(r, refs, 1+r.Intn(4))
	return anySums(r, api.Diff{Spent: spent, Made: anyOf(r, without(refs, refsOf(spent)), 1+r.Intn(4))})
}

// anySums is d with some fees, forfeits and mint; now and then those of a few diffs do not fit together.
func anySums(r *rand.Rand, d api.Diff) api.Diff {
	sums := []int64{0, 1, 5, 1 << 40, 1 << 60, r.Int63n(1 << 61)}
	d.Fees, d.Forfeits, d.Mint = sums[r.Intn(len(sums))], sums[r.Intn(len(sums))], anyTotals(r)
	return d
}

// anyFit is some diff that fits the view l, which makes entries at some of the refs.
func anyFit(r *rand.Rand, l []api.Entry, refs []api.Ref) api.Diff {
	d := api.Diff{Made: anyOf(r, without(refs, refsOf(l)), 1+r.Intn(8))}
	chances := 1 + r.Intn(8)
	for _, e := range l {
		if r.Intn(chances) == 0 {
			d.Spent = append(d.Spent, e)
		}
	}
	return anySums(r, d)
}

// spoilt is a diff near d, most of which do not fit where d did.
func spoilt(r *rand.Rand, d api.Diff) api.Diff {
	d = copied(d, 0)
	row := []*[]api.Entry{&d.Spent, &d.Made}[r.Intn(2)]
	if len(*row) == 0 {
		d.Fees -= 2
		return d
	}
	e := &(*row)[r.Intn(len(*row))]
	refs := rising()
	switch r.Intn(6) {
	case 0:
		e.Output = anyOutput(r)
	case 1:
		e.Ref = refs[r.Intn(len(refs))]
	case 2:
		e.Ref.Place = r.Intn(34) - 1
	case 3:
		slices.Reverse(*row)
	case 4:
		*row = append(*row, *e)
	default:
		d.Spent, d.Made = d.Made, d.Spent
	}
	return d
}

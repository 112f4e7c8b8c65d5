package view_test

import (
	"math/big"
	"slices"

	"moidore/api"
	"moidore/pack"
)

// A plain second telling of the chapter, word by word; what is right, and which ref stands ahead, package pack says.

// place is where the first entry of a ref stands; -1, if there is none.
func place(l []api.Entry, x api.Ref) int {
	for i, e := range l {
		if e.Ref == x {
			return i
		}
	}
	return -1
}

func stands(l []api.Entry, x api.Ref) bool { return place(l, x) >= 0 }

func standsJustSo(l []api.Entry, e api.Entry) bool {
	return stands(l, e.Ref) && same(l[place(l, e.Ref)], e)
}

// but is the entries but those whose refs stand among others.
func but(l, others []api.Entry) []api.Entry {
	var left []api.Entry
	for _, e := range l {
		if !stands(others, e.Ref) {
			left = append(left, e)
		}
	}
	return left
}

// together is two rows as one that rises: each of the one, put where it stands among the other.
func together(l, more []api.Entry) []api.Entry {
	l = slices.Clone(l)
	for _, e := range more {
		at := 0
		for at < len(l) && pack.Less(l[at].Ref, e.Ref) {
			at++
		}
		l = slices.Insert(l, at, e)
	}
	return l
}

func fits(l []api.Entry, d api.Diff) bool {
	is := pack.RightEntries(l) && pack.RightDiff(d)
	for _, e := range d.Spent {
		is = is && standsJustSo(l, e)
	}
	for _, e := range d.Made {
		is = is && !stands(l, e.Ref)
	}
	return is
}

func applied(l []api.Entry, d api.Diff) ([]api.Entry, bool) {
	if !fits(l, d) {
		return nil, false
	}
	return together(but(l, d.Spent), d.Made), true
}

func undone(l []api.Entry, d api.Diff) ([]api.Entry, bool) {
	return applied(l, api.Diff{Spent: d.Made, Made: d.Spent, Fees: d.Fees, Forfeits: d.Forfeits, Mint: d.Mint})
}

// mostOfTwo is whether the sum of two is at most 2^63 - 1.
func mostOfTwo(a, b int64) bool {
	return new(big.Int).Add(big.NewInt(a), big.NewInt(b)).IsInt64()
}

func fitsBehind(a, b api.Diff) bool {
	is := pack.RightDiff(a) && pack.RightDiff(b) && mostOfTwo(a.Fees, b.Fees) && mostOfTwo(a.Forfeits, b.Forfeits)
	for _, e := range b.Spent {
		is = is && (!stands(a.Made, e.Ref) || standsJustSo(a.Made, e)) && !stands(a.Spent, e.Ref)
	}
	for _, e := range b.Made {
		is = is && !stands(a.Spent, e.Ref) && !stands(a.Made, e.Ref)
	}
	return is
}

// minted is two rows of totals as one: of each name the sum modulo 2^128, none of 0, by Policies, then Names.
func minted(a, b []api.Total) []api.Total {
	var l []api.Total
	two := new(big.Int).Lsh(big.NewInt(1), 64)
	for _, x := range slices.Concat(a, b) {
		at := slices.IndexFunc(l, func(y api.Total) bool { return y.Policy == x.Policy && y.Name == x.Name })
		if at < 0 {
			l = append(l, x)
			continue
		}
		all := new(big.Int)
		for _, w := range []api.Wide{l[at].Sum, x.Sum} {
			all.Add(all, new(big.Int).Add(new(big.Int).Mul(big.NewInt(w.Hi), two), new(big.Int).SetUint64(w.Lo)))
		}
		hi, lo := new(big.Int).DivMod(all, two, new(big.Int))
		hi.Mod(hi, two)
		l[at].Sum = api.Wide{Hi: int64(hi.Uint64()), Lo: lo.Uint64()}
	}
	l = slices.DeleteFunc(l, func(x api.Total) bool { return x.Sum == api.Wide{} })
	slices.SortFunc(l, func(x, y api.Total) int {
		if s, u := string(x.Policy[:])+x.Name, string(y.Policy[:])+y.Name; s < u {
			return -1
		}
		return 1
	})
	return l
}

func both(a, b api.Diff) api.Diff {
	return api.Diff{
		Spent: together(a.Spent, but(b.Spent, a.Made)),
		Made:  together(but(a.Made, b.Spent), b.Made),
		Fees:  a.Fees + b.Fees, Forfeits: a.Forfeits + b.Forfeits,
		Mint: minted(a.Mint, b.Mint),
	}
}

func joined(l ...api.Diff) (api.Diff, bool) {
	if len(l) == 0 {
		return api.Diff{}, true
	}
	all := l[0]
	for _, d := range l[1:] {
		if !fitsBehind(all, d) {
			return api.Diff{}, false
		}
		all = both(all, d)
	}
	if !pack.RightDiff(all) {
		return api.Diff{}, false
	}
	return all, true
}

package pack

import (
	"math/rand"
	"slices"

	"moidore/api"
	"moidore/term"
)

// anyNumber is some number; the ends of all of them come often.
func anyNumber(r *rand.Rand) int64 {
	ends := []int64{least, -1, 0, 1, 255, 256, 65536, most}
	if r.Intn(2) == 0 {
		return ends[r.Intn(len(ends))]
	}
	return int64(r.Uint64()) >> r.Intn(64)
}

// anyAmount is some amount of 1 or more.
func anyAmount(r *rand.Rand) int64 { return max(1, anyNumber(r)&most) }

// anyHash is some hash; few are many times there, and some differ in one byte.
func anyHash(r *rand.Rand) api.Hash {
	if r.Intn(4) == 0 {
		var x api.Hash
		r.Read(x[:])
		return x
	}
	return h(byte(r.Intn(5)), byte(r.Intn(5)))
}

func anyText(r *rand.Rand, most int) string {
	b := make([]byte, []int{0, r.Intn(4), r.Intn(most + 1), most}[r.Intn(4)])
	r.Read(b)
	return string(b)
}

// anyTerm is some right term.
func anyTerm(r *rand.Rand) api.Term {
	for {
		if t := anyTree(r, 1+r.Intn(5)); term.Right(t) {
			return t
		}
	}
}

// anyTree is some term of some kind, at most so deep; most of them are right.
func anyTree(r *rand.Rand, deep int) api.Term {
	kind := r.Intn(6)
	if deep == 1 {
		kind = r.Intn(3)
	}
	var kids []api.Term
	for range r.Intn(4) {
		if kind > 2 {
			kids = append(kids, anyTree(r, deep-1))
		}
	}
	switch kind {
	case 0:
		return num(anyNumber(r))
	case 1:
		return text(anyText(r, 200))
	case 2:
		return realOf([]uint64{0, minusNought, inf, api.NaN, 1, r.Uint64()}[r.Intn(6)])
	case 3:
		return list(kids...)
	case 4:
		return tag(int64(r.Intn(1<<31)), kids...)
	}
	slices.SortFunc(kids, term.Order)
	var l []api.Term
	for _, k := range slices.CompactFunc(kids, term.Same) {
		l = append(l, k, anyTree(r, 1))
	}
	return pairs(l...)
}

// name is what an asset is called.
type name struct {
	policy api.Hash
	name   string
}

// anyNames is some names that rise, at most so many.
func anyNames(r *rand.Rand, most int) []name {
	var l []name
	for range r.Intn(most + 1) {
		l = append(l, name{anyHash(r), anyText(r, 32)})
	}
	slices.SortFunc(l, func(a, b name) int {
		return slices.Compare(append(a.policy[:], a.name...), append(b.policy[:], b.name...))
	})
	return slices.Compact(l)
}

func anyAssets(r *rand.Rand) []api.Asset {
	var l []api.Asset
	for _, x := range anyNames(r, 30) {
		n := anyAmount(r)
		if r.Intn(2) == 0 {
			n = -n
		}
		l = append(l, api.Asset{Policy: x.policy, Name: x.name, Amount: n})
	}
	return l
}

func anyValue(r *rand.Rand) api.Value {
	v := api.Value{Coin: anyNumber(r) & most}
	for _, x := range anyNames(r, []int{0, 3, 30}[r.Intn(3)]) {
		v.Assets = append(v.Assets, api.Asset{Policy: x.policy, Name: x.name, Amount: anyAmount(r)})
	}
	return v
}

func anyTotals(r *rand.Rand) []api.Total {
	var l []api.Total
	for _, x := range anyNames(r, 40) {
		l = append(l, api.Total{Policy: x.policy, Name: x.name, Sum: api.Wide{Hi: anyNumber(r), Lo: uint64(anyAmount(r))}})
	}
	return l
}

func anyOutput(r *rand.Rand) api.Output {
	o := api.Output{Address: api.Address{Program: r.Intn(2) == 0, Hash: anyHash(r)}, Value: anyValue(r), Datum: api.DatumKind(r.Intn(3))}
	switch o.Datum {
	case api.DatumHash:
		o.Hash = anyHash(r)
	case api.DatumInline:
		o.Term = anyTerm(r)
	}
	return o
}

func anyRef(r *rand.Rand) api.Ref { return api.Ref{Tx: anyHash(r), Place: r.Intn(31)} }

// anyRefs is some refs that rise, at most so many.
func anyRefs(r *rand.Rand, most int) []api.Ref {
	var l []api.Ref
	for range r.Intn(most + 1) {
		l = append(l, anyRef(r))
	}
	slices.SortFunc(l, func(a, b api.Ref) int {
		return slices.Compare(append(a.Tx[:], byte(a.Place)), append(b.Tx[:], byte(b.Place)))
	})
	return slices.Compact(l)
}

func anyEntries(r *rand.Rand) []api.Entry {
	var l []api.Entry
	for _, x := range anyRefs(r, 8) {
		l = append(l, entry(x, anyOutput(r)))
	}
	return l
}

func anyDiff(r *rand.Rand) api.Diff {
	d := api.Diff{Fees: anyNumber(r) & most, Forfeits: anyNumber(r) & most, Mint: anyTotals(r)}
	for _, x := range anyRefs(r, 10) {
		if e := entry(x, anyOutput(r)); r.Intn(2) == 0 {
			d.Spent = append(d.Spent, e)
		} else {
			d.Made = append(d.Made, e)
		}
	}
	return d
}

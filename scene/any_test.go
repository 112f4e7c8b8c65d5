package scene_test

import (
	"math/rand"
	"slices"
	"testing"

	"moidore/api"
	"moidore/scene"
	"moidore/term"
	"moidore/tx"
)

// anyNumber is some number of 0 or more; its ends come often.
func anyNumber(r *rand.Rand, most int64) int64 {
	return []int64{0, most, min(most, int64(r.Intn(300))), int64(r.Uint64()>>1) % most}[r.Intn(4)]
}

func anyHash(r *rand.Rand) api.Hash {
	var x api.Hash
	if r.Intn(3) > 0 {
		return h(byte(r.Intn(4)), byte(r.Intn(4)))
	}
	r.Read(x[:])
	return x
}

func anyText(r *rand.Rand, most int) string {
	b := make([]byte, []int{0, r.Intn(4), r.Intn(most + 1), most}[r.Intn(4)])
	r.Read(b)
	return string(b)
}

// few is some things, often few, at times as many as may be.
func few[T any](r *rand.Rand, most int, one func(*rand.Rand) T) []T {
	var l []T
	for range []int{0, r.Intn(min(4, most+1)), r.Intn(min(4, most+1)), r.Intn(most + 1), most}[min(r.Intn(40), 4)] {
		l = append(l, one(r))
	}
	return l
}

// anyTree is some term, mostly a right one.
func anyTree(r *rand.Rand, deep int) any {
	kind := r.Intn(8)
	if deep == 1 {
		kind = r.Intn(4)
	}
	var kids listed
	for range r.Intn(4) {
		if kind > 3 {
			kids = append(kids, anyTree(r, deep-1))
		}
	}
	switch kind {
	case 0:
		return anyNumber(r, most) - anyNumber(r, most)
	case 1:
		return anyText(r, 200)
	case 2:
		return realOf([]uint64{0, 1 << 63, api.NaN, 1, r.Uint64()}[r.Intn(5)])
	case 3:
		return pairs(r.Intn(4))
	case 4, 5:
		return tagged{anyNumber(r, 1<<31-1), kids}
	}
	return kids
}

func anyTerm(r *rand.Rand) api.Term {
	for {
		if t := termOf(anyTree(r, 1+r.Intn(5))); term.Right(t) {
			return t
		}
	}
}

// anyAssets is some assets that rise.
func anyAssets(r *rand.Rand) []api.Asset {
	l := few(r, 30, func(r *rand.Rand) api.Asset {
		return api.Asset{Policy: anyHash(r), Name: anyText(r, 32), Amount: max(1, anyNumber(r, most))}
	})
	name := func(a api.Asset) string { return plainHash(a.Policy) + a.Name }
	slices.SortFunc(l, func(a, b api.Asset) int { return slices.Compare([]byte(name(a)), []byte(name(b))) })
	return slices.CompactFunc(l, func(a, b api.Asset) bool { return name(a) == name(b) })
}

func anyMint(r *rand.Rand) []api.Asset {
	l := anyAssets(r)
	for i := range l {
		if r.Intn(2) == 0 {
			l[i].Amount = -l[i].Amount
		}
	}
	return l
}

func anyOutput(r *rand.Rand) api.Output {
	o := api.Output{Address: api.Address{Program: r.Intn(2) == 0, Hash: anyHash(r)}, Value: val(anyNumber(r, most), anyAssets(r)...), Datum: api.DatumKind(r.Intn(3))}
	switch o.Datum {
	case api.DatumHash:
		o.Hash = anyHash(r)
	case api.DatumInline:
		o.Term = anyTerm(r)
	}
	return o
}

func anyRef(r *rand.Rand) api.Ref { return api.Ref{Tx: anyHash(r), Place: r.Intn(31)} }

func anySignature(r *rand.Rand) api.Signature {
	var s api.Signature
	for range 35 {
		s.Chains = append(s.Chains, anyHash(r))
	}
	return s
}

// anyTx is some right transaction.
func anyTx(r *rand.Rand) api.Tx {
	x := full()
	x.Body.Inputs, x.Body.Collateral, x.Body.Outputs = few(r, 30, anyRef), few(r, 30, anyRef), few(r, 30, anyOutput)
	x.Body.Fee, x.Body.From, x.Body.To, x.Body.Mint = anyNumber(r, most), anyNumber(r, 1<<40), anyNumber(r, 1<<40)-1, anyMint(r)
	x.Terms, x.Valid = few(r, 10, anyTerm), r.Intn(2) == 0
	switch r.Intn(3) {
	case 0:
		x = signed(x, []string{"one", "two", "three"}[r.Intn(3):]...)
	case 1:
		x.Signatures = few(r, 60, anySignature)
	}
	return x
}

// call is what Of is given.
type call struct {
	tx      api.Tx
	entries []api.Entry
	purpose api.PurposeKind
	place   int
}

func (c call) of() api.Term { return scene.Of(c.tx, c.entries, c.purpose, c.place) }

func (c call) plain() api.Term { return plainScene(c.tx, c.entries, c.purpose, c.place) }

// anyCall is some call that tells a scene.
func anyCall(r *rand.Rand) call {
	c := call{tx: anyTx(r), purpose: api.PurposeKind(1 + r.Intn(2)), place: r.Intn(1 << 16)}
	for _, x := range c.tx.Body.Inputs {
		c.entries = append(c.entries, entry(x, anyOutput(r)))
	}
	return c
}

// spoilt is a call one part of which is another one; at times it still tells a scene.
func spoilt(r *rand.Rand, c call) call {
	c.entries = slices.Clone(c.entries)
	switch r.Intn(6) {
	case 0:
		l := slices.Concat(wrongBends(), rightBends())
		c.tx = l[r.Intn(len(l))].bent()
		c.entries = taken(c.tx)
	case 1:
		c.entries = append(c.entries, entry(anyRef(r), anyOutput(r)))
	case 2:
		r.Shuffle(len(c.entries), func(i, k int) { c.entries[i], c.entries[k] = c.entries[k], c.entries[i] })
	case 3:
		for i := range c.entries {
			if r.Intn(4) == 0 {
				c.entries[i].Ref = anyRef(r)
			}
		}
	case 4:
		c.purpose = api.PurposeKind(r.Intn(6) - 1)
	case 5:
		c.place = []int{-1, 65535, 65536, r.Intn(1 << 17)}[r.Intn(4)]
	}
	return c
}

// P14.1, P14.3: any right transactions with any right entries, and such as are spoilt, held against the plain telling.
func TestByChance(t *testing.T) {
	t.Parallel()
	r := rand.New(rand.NewSource(1401))
	count := map[bool]int{}
	for range 300 {
		c := anyCall(r)
		got := c.of()
		wantTerm(t, "by chance", got, c.plain())
		if !tx.Right(c.tx) || !term.Fits(got, api.MaxScene, api.SceneDeep) {
			t.Errorf("it is not right, or does not fit: %s", short(c))
		}
		c = spoilt(r, c)
		wantTerm(t, "spoilt", c.of(), c.plain())
		count[len(c.of().Nodes) > 0]++
	}
	if count[true] < 60 || count[false] < 60 {
		t.Error(count)
	}
}

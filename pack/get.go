package pack

import (
	"moidore/api"
	"moidore/wire"
)

// getter is a reader of which things are got, right or not: whole ones are asked when they are there.
type getter struct{ *wire.Reader }

// get tells the right thing that stands next, as tell gets it; where there is none such the reader is spoilt.
func get[T any](r *wire.Reader, tell func(getter) T, right func(T) bool) (told T) {
	defer func() {
		if recover() != nil {
			r.Spoil()
		}
	}()
	g := getter{r}
	x := tell(g)
	must(g.sound(), right(x))
	return x
}

// sound says whether all asks were met so far.
func (g getter) sound() bool { return g.Err() == api.OK }

// row is n things, one by one. n may say more than there are: the first one that is not there ends it.
func row[T any](g getter, n int, tell func(getter) T) []T {
	var l []T
	for range n {
		l = append(l, tell(g))
		must(g.sound())
	}
	return l
}

// kinds tells what a node has behind its kind.
func (g getter) kinds() map[api.TermKind]func() api.Node {
	kids := func() api.Node { return api.Node{Kids: g.U16()} }
	return map[api.TermKind]func() api.Node{
		api.TermInt:   func() api.Node { return api.Node{Int: g.I64()} },
		api.TermBytes: func() api.Node { return api.Node{Bytes: g.Text(api.MaxBlob)} },
		api.TermReal:  func() api.Node { return api.Node{Bits: g.U64()} },
		api.TermList:  kids,
		api.TermTag:   func() api.Node { return api.Node{Int: int64(g.U32()), Kids: g.U16()} },
		api.TermMap:   kids,
	}
}

// term ends where all kids are there. Nodes may say more kids than a term may have nodes: the first one too many ends it.
func (g getter) term() api.Term {
	var t api.Term
	has := g.kinds()
	for left := 1; left > 0; left-- {
		kind := api.TermKind(g.U8())
		rest := has[kind]
		must(rest != nil, len(t.Nodes) < api.MaxNodes)
		n := rest()
		n.Kind = kind
		t.Nodes = append(t.Nodes, n)
		left += n.Kids
	}
	return t
}

func (g getter) asset() api.Asset {
	return api.Asset{Policy: g.Hash(), Name: g.Text(api.MaxName), Amount: g.I64()}
}

func (g getter) assets() []api.Asset { return row(g, g.Count(api.MaxAssets), getter.asset) }

func (g getter) value() api.Value { return api.Value{Coin: g.I64(), Assets: g.assets()} }

func (g getter) total() api.Total {
	return api.Total{Policy: g.Hash(), Name: g.Text(api.MaxName), Sum: api.Wide{Hi: g.I64(), Lo: g.U64()}}
}

func (g getter) totals() []api.Total { return row(g, g.U32(), getter.total) }

func (g getter) address() api.Address { return api.Address{Program: g.Flag(), Hash: g.Hash()} }

func (g getter) output() api.Output {
	o := api.Output{Address: g.address(), Value: g.value(), Datum: api.DatumKind(g.U8())}
	switch o.Datum {
	case api.DatumHash:
		o.Hash = g.Hash()
	case api.DatumInline:
		o.Term = g.term()
	}
	return o
}

func (g getter) ref() api.Ref { return api.Ref{Tx: g.Hash(), Place: g.Count(api.MaxOutputs)} }

func (g getter) entry() api.Entry { return api.Entry{Ref: g.ref(), Output: g.output()} }

func (g getter) entries() []api.Entry { return row(g, g.U32(), getter.entry) }

func (g getter) diff() api.Diff {
	return api.Diff{Spent: g.entries(), Made: g.entries(), Fees: g.I64(), Forfeits: g.I64(), Mint: g.totals()}
}

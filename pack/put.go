package pack

import (
	"moidore/api"
	"moidore/wire"
)

// putter is a writer to which things are put that are right: whole ones are asked once, and none of their parts again.
type putter struct{ *wire.Writer }

// put puts a thing, if it is right, as lay does.
func put[T any](w *wire.Writer, x T, right func(T) bool, lay func(putter, T)) {
	if !right(x) {
		w.Spoil()
		return
	}
	lay(putter{w}, x)
}

// kinds puts what a node has behind its kind.
func (p putter) kinds() map[api.TermKind]func(api.Node) {
	kids := func(n api.Node) { p.U16(n.Kids) }
	return map[api.TermKind]func(api.Node){
		api.TermInt:   func(n api.Node) { p.I64(n.Int) },
		api.TermBytes: func(n api.Node) { p.Text(n.Bytes) },
		api.TermReal:  func(n api.Node) { p.U64(n.Bits) },
		api.TermList:  kids,
		api.TermTag: func(n api.Node) {
			p.U32(int(n.Int))
			p.U16(n.Kids)
		},
		api.TermMap: kids,
	}
}

func (p putter) term(t api.Term) {
	has := p.kinds()
	for _, n := range t.Nodes {
		p.U8(int(n.Kind))
		has[n.Kind](n)
	}
}

func (p putter) assets(l []api.Asset) {
	p.U16(len(l))
	for _, a := range l {
		p.Hash(a.Policy)
		p.Text(a.Name)
		p.I64(a.Amount)
	}
}

func (p putter) value(v api.Value) {
	p.I64(v.Coin)
	p.assets(v.Assets)
}

func (p putter) totals(l []api.Total) {
	p.U32(len(l))
	for _, t := range l {
		p.Hash(t.Policy)
		p.Text(t.Name)
		p.I64(t.Sum.Hi)
		p.U64(t.Sum.Lo)
	}
}

func (p putter) address(a api.Address) {
	p.Flag(a.Program)
	p.Hash(a.Hash)
}

func (p putter) output(o api.Output) {
	p.address(o.Address)
	p.value(o.Value)
	p.U8(int(o.Datum))
	switch o.Datum {
	case api.DatumHash:
		p.Hash(o.Hash)
	case api.DatumInline:
		p.term(o.Term)
	}
}

func (p putter) ref(x api.Ref) {
	p.Hash(x.Tx)
	p.U16(x.Place)
}

func (p putter) entries(l []api.Entry) {
	p.U32(len(l))
	for _, e := range l {
		p.ref(e.Ref)
		p.output(e.Output)
	}
}

func (p putter) diff(d api.Diff) {
	p.entries(d.Spent)
	p.entries(d.Made)
	p.I64(d.Fees)
	p.I64(d.Forfeits)
	p.totals(d.Mint)
}

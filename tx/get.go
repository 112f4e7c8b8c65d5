package tx

import (
	"moidore/api"
	"moidore/code"
	"moidore/pack"
	"moidore/wire"
)

// getter is a reader of which the parts of one transaction are got, and how many bytes it leaves at least, since a transaction has no more than MaxBytes.
type getter struct {
	*wire.Reader
	leaves int
}

// sound says whether all asks were met so far, in no more bytes than may be.
func (g getter) sound() bool { return g.Err() == api.OK && g.Left() >= g.leaves }

// row is n things, one by one. n may say more than there are: the first one that is not there ends it.
func row[T any](g getter, n int, next func(getter) T) []T {
	var l []T
	for range n {
		l = append(l, next(g))
		must(g.sound())
	}
	return l
}

func (g getter) ref() api.Ref { return pack.GetRef(g.Reader) }

func (g getter) output() api.Output { return pack.GetOutput(g.Reader) }

func (g getter) term() api.Term { return pack.GetTerm(g.Reader) }

func (g getter) program() api.Program { return code.Get(g.Reader) }

func (g getter) refs() []api.Ref { return row(g, g.Count(api.MaxInputs), getter.ref) }

func (g getter) outputs(most int) []api.Output { return row(g, g.Count(most), getter.output) }

func (g getter) body() api.Body {
	b := api.Body{
		Inputs:     g.refs(),
		Collateral: g.refs(),
		Return:     g.outputs(mostReturn),
		Outputs:    g.outputs(api.MaxOutputs),
		Fee:        g.I64(),
		From:       g.I64(),
		To:         g.I64(),
		Mint:       pack.GetAssets(g.Reader),
		Data:       g.Hash(),
	}
	mustBody(b)
	return b
}

func (g getter) signature() api.Signature {
	return api.Signature{Chains: row(g, api.Chains, getter.Hash)}
}

func (g getter) redeemer() api.Redeemer {
	x := api.Redeemer{
		Purpose: api.PurposeKind(g.U8()),
		Place:   g.U16(),
		Term:    g.term(),
		Budget:  api.Budget{Steps: g.I64(), Memory: g.I64()},
	}
	mustRedeemer(x)
	return x
}

// whole is a transaction.
func (g getter) whole() api.Tx {
	return api.Tx{
		Body:       g.body(),
		Signatures: row(g, g.Count(mostSignatures), getter.signature),
		Programs:   row(g, g.Count(api.MaxPrograms), getter.program),
		Terms:      row(g, g.Count(api.MaxTerms), getter.term),
		Redeemers:  row(g, g.Count(mostRedeemers), getter.redeemer),
		Valid:      g.Flag(),
	}
}

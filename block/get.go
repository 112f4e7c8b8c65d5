package block

import (
	"moidore/api"
	"moidore/tx"
	"moidore/wire"
)

// getter is a reader of which the parts of a block are got.
type getter struct{ *wire.Reader }

// mustSound throws, unless all asks were met so far.
func (g getter) mustSound() { must(g.Err() == api.OK) }

func (g getter) header() api.Header {
	h := api.Header{Parent: g.Hash(), Height: g.U32(), Slot: g.I64(), Root: g.Hash(), Nonce: g.U64()}
	g.mustSound()
	must(rightHeader(h))
	return h
}

// txs is as many transactions as are said; the first one that is not there ends it.
func (g getter) txs() []api.Tx {
	var l []api.Tx
	for range g.Count(api.MaxTxs) {
		l = append(l, tx.GetTx(g.Reader))
		g.mustSound()
	}
	return l
}

// block is all that is left.
func (g getter) block() api.Block {
	b := api.Block{Header: g.header(), Txs: g.txs()}
	must(g.End())
	return b
}

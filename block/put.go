package block

import (
	"iter"
	"math/bits"

	"moidore/api"
	"moidore/sum"
	"moidore/tx"
	"moidore/wire"
)

// written is what was put to a writer; one that is spoilt is thrown.
func written(w *wire.Writer) []byte {
	b, e := w.Bytes()
	must(e == api.OK)
	return b
}

// laid is the bytes of a header and transactions; what is no right block is thrown.
func laid(h api.Header, txs ...api.Tx) []byte {
	mustFew(txs)
	w := wire.NewWriter()
	PutHeader(w, h)
	w.U16(len(txs))
	for _, t := range txs {
		tx.PutTx(w, t)
	}
	b := written(w)
	mustFit(b)
	return b
}

// leaves is of each transaction the hash of its bytes; one that is not right is thrown.
func leaves(txs ...api.Tx) iter.Seq[api.Hash] {
	return func(yield func(api.Hash) bool) {
		for _, t := range txs {
			b, is := tx.Put(t)
			must(is)
			if !yield(sum.Of(b)) {
				return
			}
		}
	}
}

// noughts is how many bits 0 an id begins with.
func noughts(id api.Hash) int {
	n := 0
	for _, b := range id {
		n += bits.LeadingZeros8(b)
		if b != 0 {
			break
		}
	}
	return n
}

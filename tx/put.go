package tx

import (
	"moidore/api"
	"moidore/code"
	"moidore/pack"
	"moidore/wire"
)

// laid is the bytes that put puts of x, and true; none and false, if x is thrown, or a part of it spoils the writer.
func laid[T any](x T, put func(*wire.Writer, T)) (b []byte, is bool) {
	defer func() {
		if recover() != nil {
			b, is = nil, false
		}
	}()
	w := wire.NewWriter()
	put(w, x)
	b, e := w.Bytes()
	must(e == api.OK)
	return b, true
}

// putRow puts how many things there are, and each of them; it throws more than most.
func putRow[T any](w *wire.Writer, most int, l []T, put func(*wire.Writer, T)) {
	must(len(l) <= most)
	w.U16(len(l))
	for _, x := range l {
		put(w, x)
	}
}

func putBody(w *wire.Writer, b api.Body) {
	mustBody(b)
	putRow(w, api.MaxInputs, b.Inputs, pack.PutRef)
	putRow(w, api.MaxInputs, b.Collateral, pack.PutRef)
	putRow(w, mostReturn, b.Return, pack.PutOutput)
	putRow(w, api.MaxOutputs, b.Outputs, pack.PutOutput)
	w.I64(b.Fee)
	w.I64(b.From)
	w.I64(b.To)
	pack.PutAssets(w, b.Mint)
	w.Hash(b.Data)
}

// putSignature puts a signature without how many hashes it has: it is always as many.
func putSignature(w *wire.Writer, s api.Signature) {
	must(len(s.Chains) == api.Chains)
	for _, h := range s.Chains {
		w.Hash(h)
	}
}

func putRedeemer(w *wire.Writer, x api.Redeemer) {
	mustRedeemer(x)
	w.U8(int(x.Purpose))
	w.U16(x.Place)
	pack.PutTerm(w, x.Term)
	w.I64(x.Budget.Steps)
	w.I64(x.Budget.Memory)
}

func putData(w *wire.Writer, t api.Tx) {
	putRow(w, api.MaxPrograms, t.Programs, code.Put)
	putRow(w, api.MaxTerms, t.Terms, pack.PutTerm)
	putRow(w, mostRedeemers, t.Redeemers, putRedeemer)
}

// putWhole puts a transaction, whether its bytes are too many or not.
func putWhole(w *wire.Writer, t api.Tx) {
	putBody(w, t.Body)
	putRow(w, mostSignatures, t.Signatures, putSignature)
	putData(w, t)
	w.Flag(t.Valid)
}

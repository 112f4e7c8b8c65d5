package tx

import (
	"testing"

	"moidore/api"
	"moidore/sum"
)

// wantHash wants a hash to be that of bytes, or none, if there are no such.
func wantHash(t *testing.T, name string, got api.Hash, is bool, want []byte, right bool) {
	t.Helper()
	if !right && (is || got != api.Hash{}) {
		t.Errorf("%s: %x, %t of what is not right", name, got, is)
	}
	if right && (!is || got != sum.Of(want)) {
		t.Errorf("%s: %x, %t, not that of %d bytes", name, got, is, len(want))
	}
}

// wantAsked wants what Right, Id and Data tell to be what the chapter's words say.
func wantAsked(t *testing.T, name string, x api.Tx, right, body, data bool) {
	t.Helper()
	if isTx(x) != right || isBody(x.Body) != body || isData(x) != data {
		t.Fatalf("%s: no such transaction", name)
	}
	if Right(x) != right {
		t.Errorf("%s: not %t", name, right)
	}
	id, is := Id(x.Body)
	wantHash(t, name+", the id", id, is, bodyBytes(x.Body), body)
	hash, is := Data(x)
	wantHash(t, name+", the data's hash", hash, is, dataBytes(x), data)
}

// P11.1: at each bound, and of each sort of right parts.
func TestRight(t *testing.T) {
	t.Parallel()
	for _, x := range rightBends() {
		wantAsked(t, x.name, x.bent(), true, true, true)
	}
}

// P11.1: one beyond each bound, and with each sort of parts that are not right. Id asks the body alone, Data the data alone, neither how many all bytes are.
func TestWrong(t *testing.T) {
	t.Parallel()
	for _, x := range wrongBends() {
		wantAsked(t, x.name, x.bent(), false, x.part != inBody, x.part != inData)
	}
}

// P11.1: two things that are not right, in one transaction.
func TestWrongTwice(t *testing.T) {
	t.Parallel()
	more := []bend{
		{"the Fee", inBody, func(t *api.Tx) { t.Body.Fee = -1 }},
		{"a signature", inSignatures, func(t *api.Tx) { t.Signatures = []api.Signature{{}} }},
		{"a term", inData, func(t *api.Tx) { t.Terms = []api.Term{{}} }},
	}
	for _, x := range wrongBends() {
		for _, y := range more {
			z := x.bent()
			y.do(&z)
			wantAsked(t, x.name+", and "+y.name, z, false, x.part != inBody && y.part != inBody, x.part != inData && y.part != inData)
		}
	}
}

// P11.1: the full transaction's id and its data's hash, of bytes that are written down by hand.
func TestHashes(t *testing.T) {
	t.Parallel()
	id, is := Id(full().Body)
	wantHash(t, "the id", id, is, fullBody(), true)
	hash, is := Data(full())
	wantHash(t, "the data's hash", hash, is, fullData(), true)
	one := api.Tx{Redeemers: []api.Redeemer{redeemer(api.PurposeMint, 258, num(1), 3, 4)}}
	hash, is = Data(one)
	wantHash(t, "one redeemer", hash, is, unhex("0000 0000 0001 02 0102 01 0000000000000001 0000000000000003 0000000000000004"), true)
}

// P11.1: a right body may have more bytes than a transaction, and so may right data.
func TestLongParts(t *testing.T) {
	t.Parallel()
	var x api.Tx
	x.Body.Outputs = many(30, termOut(val(1), termOf(20000)))
	x.Programs = many(10, prog(1, many(30, api.Instr{Op: api.OpPushTerm, Term: termOf(9000)})...))
	wantAsked(t, "both", x, false, true, true)
}

// P11.1: transactions of 2^18 bytes, of one fewer, of one more.
func TestBytes(t *testing.T) {
	t.Parallel()
	for _, from := range []api.Tx{{}, full(), {Valid: true, Signatures: many(60, sig(1, 35))}} {
		for n := 1<<18 - 3; n <= 1<<18+3; n++ {
			x := padded(from, n)
			if len(txBytes(x)) != n {
				t.Fatalf("%d bytes, not %d", len(txBytes(x)), n)
			}
			wantAsked(t, "padded", x, n <= 1<<18, true, true)
		}
	}
}

package block

import (
	"fmt"
	"math/rand"
	"slices"
	"strings"

	"moidore/api"
)

// h is a hash whose first and last bytes are these.
func h(first, last byte) api.Hash {
	var x api.Hash
	x[0], x[31] = first, last
	return x
}

// hx is the same in hexadecimal.
func hx(first, last byte) string {
	return fmt.Sprintf("%02x%s%02x ", first, strings.Repeat("00", 30), last)
}

// someHeader is a right header, no two bytes of whose numbers are the same.
func someHeader() api.Header {
	return api.Header{Parent: h(0xa1, 0xa2), Height: 0x01020304, Slot: 0xb1b2b3b4b5, Root: h(0xa3, 0xa4), Nonce: 0xf1f2f3f4f5f6f7f8}
}

// someHeaderBytes is its bytes, written down by hand.
func someHeaderBytes() []byte {
	return unhex(hx(0xa1, 0xa2) + "01020304 000000b1b2b3b4b5" + hx(0xa3, 0xa4) + "f1f2f3f4f5f6f7f8")
}

func num(n int64) api.Term { return api.Term{Nodes: []api.Node{{Kind: api.TermInt, Int: n}}} }

// full is a right transaction with something of everything.
func full() api.Tx {
	chains := make([]api.Hash, 35)
	for i := range chains {
		chains[i] = h(0x40+byte(i), byte(i))
	}
	return api.Tx{
		Body: api.Body{
			Inputs:     []api.Ref{{Tx: h(0x11, 0x12), Place: 30}, {Tx: h(0x10, 0x13)}},
			Collateral: []api.Ref{{Tx: h(0x14, 0x15), Place: 7}},
			Return:     []api.Output{{Address: api.Address{Hash: h(0x16, 0x17)}, Value: api.Value{Coin: 258}}},
			Outputs: []api.Output{{
				Address: api.Address{Program: true, Hash: h(0x18, 0x19)},
				Value:   api.Value{Coin: 5, Assets: []api.Asset{{Policy: h(1, 0), Amount: 1}, {Policy: h(1, 0), Name: "ab", Amount: most}}},
				Datum:   api.DatumInline, Term: num(-1),
			}},
			Fee: 0x0102030405060708, From: 1 << 40, To: -1,
			Mint: []api.Asset{{Policy: h(2, 0), Name: "z", Amount: -3}},
			Data: h(0x22, 0x23),
		},
		Signatures: []api.Signature{{Chains: chains}},
		Programs:   []api.Program{{Args: 3, Instrs: []api.Instr{{Op: api.OpPushInt, Num: 1}, {Op: api.OpFail}}}},
		Terms:      []api.Term{num(7)},
		Redeemers:  []api.Redeemer{{Purpose: api.PurposeMint, Place: 65535, Term: num(9), Budget: api.Budget{Steps: 1 << 20, Memory: 2}}},
		Valid:      true,
	}
}

// fullBytes is its bytes, written down by hand.
func fullBytes() []byte {
	signature := ""
	for i := range byte(35) {
		signature += hx(0x40+i, i)
	}
	return unhex("0002" + hx(0x11, 0x12) + "001e" + hx(0x10, 0x13) + "0000" +
		"0001" + hx(0x14, 0x15) + "0007" +
		"0001" + "00" + hx(0x16, 0x17) + "0000000000000102 0000 00" +
		"0001" + "01" + hx(0x18, 0x19) + "0000000000000005 0002" + hx(1, 0) + "0000 0000000000000001" + hx(1, 0) + "0002 6162 7fffffffffffffff" + "02 01 ffffffffffffffff" +
		"0102030405060708 0000010000000000 ffffffffffffffff" +
		"0001" + hx(2, 0) + "0001 7a fffffffffffffffd" +
		hx(0x22, 0x23) +
		"0001" + signature +
		"0001" + "03 0002 01 0000000000000001 31" +
		"0001" + "01 0000000000000007" +
		"0001" + "02 ffff 01 0000000000000009 0000000000100000 0000000000000002" +
		"01")
}

// someBlock is a right block with something of everything: the full transaction, one without anything, and the full one, not valid.
func someBlock() api.Block {
	other := full()
	other.Valid = false
	return api.Block{Header: someHeader(), Txs: []api.Tx{full(), {}, other}}
}

// someBlockBytes is its bytes, written down by hand.
func someBlockBytes() []byte {
	b := fullBytes()
	return slices.Concat(someHeaderBytes(), []byte{0, 3}, b, make([]byte, 75), b[:len(b)-1], []byte{0})
}

// wrongTxs is transactions that are not right, of many sorts.
func wrongTxs() map[string]api.Tx {
	l := map[string]api.Tx{}
	add := func(name string, bend func(t *api.Tx)) {
		t := full()
		bend(&t)
		l[name] = t
	}
	add("31 Inputs", func(t *api.Tx) { t.Body.Inputs = make([]api.Ref, 31) })
	add("the Place 31", func(t *api.Tx) { t.Body.Collateral[0].Place = 31 })
	add("two Returns", func(t *api.Tx) { t.Body.Return = make([]api.Output, 2) })
	add("-1 coins", func(t *api.Tx) { t.Body.Outputs[0].Value.Coin = -1 })
	add("the Fee -1", func(t *api.Tx) { t.Body.Fee = -1 })
	add("From 2^40 + 1", func(t *api.Tx) { t.Body.From = 1<<40 + 1 })
	add("To -2", func(t *api.Tx) { t.Body.To = -2 })
	add("Mint of 0", func(t *api.Tx) { t.Body.Mint = []api.Asset{{}} })
	add("61 Signatures", func(t *api.Tx) { t.Signatures = slices.Repeat(t.Signatures, 61) })
	add("34 Chains", func(t *api.Tx) { t.Signatures[0].Chains = t.Signatures[0].Chains[1:] })
	add("an empty program", func(t *api.Tx) { t.Programs = []api.Program{{}} })
	add("an empty term", func(t *api.Tx) { t.Terms = append(t.Terms, api.Term{}) })
	add("Purpose 0", func(t *api.Tx) { t.Redeemers[0].Purpose = 0 })
	add("very many terms", func(t *api.Tx) { t.Terms = make([]api.Term, 1<<17) })
	l["2^18 + 1 bytes"] = txOf(1<<18 + 1)
	l["the Fee -1 alone"] = api.Tx{Body: api.Body{Fee: -1}}
	return l
}

// row is so many right transactions, no two the same.
func row(many int) []api.Tx {
	var l []api.Tx
	for i := range many {
		t := api.Tx{Body: api.Body{Fee: int64(i)}}
		if i%4 == 3 {
			t = full()
			t.Body.Fee = int64(i)
		}
		l = append(l, t)
	}
	return l
}

// txOf is a transaction that is right but for how many bytes it has: so many, 75 or 100 and more.
func txOf(bytes int) api.Tx {
	var t api.Tx
	left := bytes - 75
	parts := (left + 19999) / 20000
	for i := range parts {
		n := left*(i+1)/parts - left*i/parts
		t.Redeemers = append(t.Redeemers, api.Redeemer{Purpose: api.PurposeSpend, Place: i, Term: termOf(n - 19)})
	}
	return t
}

// termOf is a list of bytes that has just so many itself, 6 or more.
func termOf(bytes int) api.Term {
	left := bytes - 3
	parts := (left + 202) / 203
	l := []api.Node{{Kind: api.TermList, Kids: parts}}
	for i := range parts {
		l = append(l, api.Node{Kind: api.TermBytes, Bytes: strings.Repeat("y", left*(i+1)/parts-left*i/parts-3)})
	}
	return api.Term{Nodes: l}
}

// longBlock is a block of so many transactions, which are about as long as one another, and of just so many bytes.
func longBlock(txs, bytes int) api.Block {
	b, left := api.Block{Header: someHeader()}, bytes-86
	for i := range txs {
		b.Txs = append(b.Txs, txOf(left*(i+1)/txs-left*i/txs))
	}
	return b
}

// anyHeader is some right header; the ends of its numbers come often.
func anyHeader(r *rand.Rand) api.Header {
	return api.Header{
		Parent: h(byte(r.Intn(3)), byte(r.Intn(256))),
		Height: []int{0, 1, 1<<31 - 1, int(r.Int31())}[r.Intn(4)],
		Slot:   []int64{0, 1, 1 << 40, r.Int63n(1 << 40)}[r.Intn(4)],
		Root:   h(byte(r.Intn(256)), byte(r.Intn(3))),
		Nonce:  []uint64{0, 1, 1<<64 - 1, r.Uint64()}[r.Intn(4)],
	}
}

// anyTx is some right transaction.
func anyTx(r *rand.Rand) api.Tx {
	t := full()
	t.Body.Fee = []int64{0, most, r.Int63()}[r.Intn(3)]
	t.Body.To = r.Int63n(1<<40+2) - 1
	t.Valid = r.Intn(2) == 0
	t.Terms[0] = []api.Term{num(r.Int63()), termOf(6 + r.Intn(300))}[r.Intn(2)]
	for _, cut := range []func(){
		func() { t.Body.Inputs = nil },
		func() { t.Body.Collateral = slices.Repeat(t.Body.Collateral, r.Intn(31)) },
		func() { t.Body.Return = nil },
		func() { t.Body.Outputs = slices.Repeat(t.Body.Outputs, r.Intn(31)) },
		func() { t.Body.Mint = nil },
		func() { t.Signatures = slices.Repeat(t.Signatures, r.Intn(4)) },
		func() { t.Signatures = nil },
		func() { t.Programs = slices.Repeat(t.Programs, r.Intn(11)) },
		func() { t.Terms = slices.Repeat(t.Terms, r.Intn(11)) },
		func() { t.Redeemers = slices.Repeat(t.Redeemers, r.Intn(61)) },
	} {
		if r.Intn(2) == 0 {
			cut()
		}
	}
	return t
}

// anyBlock is some right block.
func anyBlock(r *rand.Rand) api.Block {
	b := api.Block{Header: anyHeader(r)}
	for range []int{0, 1, r.Intn(4), r.Intn(31), 30}[r.Intn(5)] {
		b.Txs = append(b.Txs, anyTx(r))
	}
	for !isBlock(b) {
		b.Txs = b.Txs[1:]
	}
	return b
}

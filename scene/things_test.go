package scene_test

import (
	"slices"
	"strconv"
	"strings"

	"moidore/api"
	"moidore/tx"
	"moidore/wots"
)

const (
	least = -1 << 63
	most  = 1<<63 - 1
)

// h is a hash whose first and last bytes are these.
func h(first, last byte) api.Hash {
	var x api.Hash
	x[0], x[31] = first, last
	return x
}

// hx is the bytes of h, as a text.
func hx(first, last byte) string {
	return string([]byte{first}) + strings.Repeat("\x00", 30) + string([]byte{last})
}

func ref(first, last byte, place int) api.Ref { return api.Ref{Tx: h(first, last), Place: place} }

func refs(l ...api.Ref) []api.Ref { return l }

func as(policy byte, name string, n int64) api.Asset {
	return api.Asset{Policy: h(policy, 0), Name: name, Amount: n}
}

func val(coin int64, l ...api.Asset) api.Value { return api.Value{Coin: coin, Assets: l} }

// manyAssets is so many assets that rise, with Names of no byte and of 32.
func manyAssets(n int) []api.Asset {
	var l []api.Asset
	for i := range n {
		l = append(l, as(byte(i/2), strings.Repeat("x", i%2*32), int64(i)+1))
	}
	return l
}

func entry(x api.Ref, o api.Output) api.Entry { return api.Entry{Ref: x, Output: o} }

func entries(l ...api.Entry) []api.Entry { return l }

func outputs(l ...api.Output) []api.Output { return l }

// many is so many times one thing.
func many[T any](n int, x T) []T { return slices.Repeat([]T{x}, n) }

// keyOut is an output to a key, without a datum.
func keyOut(v api.Value) api.Output {
	return api.Output{Address: api.Address{Hash: h(1, 2)}, Value: v}
}

// hashOut is an output to a program, with the hash of a datum.
func hashOut(x api.Hash, v api.Value) api.Output {
	return api.Output{Address: api.Address{Program: true, Hash: h(3, 4)}, Value: v, Datum: api.DatumHash, Hash: x}
}

// termOut is an output to a program, with a datum.
func termOut(t api.Term, v api.Value) api.Output {
	return api.Output{Address: api.Address{Program: true, Hash: h(5, 6)}, Value: v, Datum: api.DatumInline, Term: t}
}

func termOf(x any) api.Term { return api.Term{Nodes: laid(x)} }

func nodes(l ...api.Node) api.Term { return api.Term{Nodes: l} }

func realOf(a uint64) api.Term { return nodes(api.Node{Kind: api.TermReal, Bits: a}) }

// pairs is a map of so many ints, each to bytes.
func pairs(n int) api.Term {
	l := []api.Node{{Kind: api.TermMap, Kids: 2 * n}}
	for i := range n {
		l = append(l, api.Node{Kind: api.TermInt, Int: int64(i)}, api.Node{Kind: api.TermBytes, Bytes: "v" + strconv.Itoa(i)})
	}
	return api.Term{Nodes: l}
}

// nested is a term that is so deep, of lists of one.
func nested(deep int) api.Term {
	l := many(deep-1, api.Node{Kind: api.TermList, Kids: 1})
	return api.Term{Nodes: append(l, api.Node{Kind: api.TermInt, Int: 9})}
}

// wide is a term of so many nodes, two deep, of bytes.
func wide(n int) api.Term {
	l := []api.Node{{Kind: api.TermList, Kids: n - 1}}
	return api.Term{Nodes: append(l, many(n-1, api.Node{Kind: api.TermBytes, Bytes: "b"})...)}
}

func rightTerms() map[string]api.Term {
	return map[string]api.Term{
		"an int": termOf(int64(7)), "the least int": termOf(int64(least)), "the greatest int": termOf(int64(most)),
		"bytes": termOf("ab"), "no bytes": termOf(""), "200 bytes": termOf(strings.Repeat("z", 200)), "32 bytes": termOf(hx(1, 2)),
		"a real": realOf(0x3FF0000000000000), "0": realOf(0), "-0": realOf(1 << 63), "NaN": realOf(api.NaN),
		"a list": termOf(listed{int64(1), listed{}, "x"}), "no list's kids": termOf(listed{}),
		"a tag": termOf(tagged{1<<31 - 1, listed{int64(2)}}), "the tag 0": termOf(tagged{0, nil}), "the tag 2 in itself": termOf(tagged{2, listed{tagged{2, listed{int64(1)}}}}),
		"a map": pairs(2), "an empty map": pairs(0), "a map in a list": termOf(listed{pairs(1), realOf(1)}),
		"100 nodes": wide(100), "16 deep": nested(16),
	}
}

func wrongTerms() map[string]api.Term {
	return map[string]api.Term{
		"none": {}, "an empty one": {Nodes: []api.Node{}},
		"no kind": nodes(api.Node{}), "kind 7": nodes(api.Node{Kind: 7}), "kind -1": nodes(api.Node{Kind: -1}),
		"an int with bytes": nodes(api.Node{Kind: api.TermInt, Bytes: "a"}), "201 bytes": termOf(strings.Repeat("z", 201)), "another NaN": realOf(api.NaN + 1),
		"tag -1": termOf(tagged{-1, nil}), "tag 2^31": termOf(tagged{1 << 31, nil}), "a key alone": nodes(api.Node{Kind: api.TermMap, Kids: 1}, api.Node{Kind: api.TermInt}),
		"a key twice": nodes(append([]api.Node{{Kind: api.TermMap, Kids: 4}}, many(4, api.Node{Kind: api.TermInt})...)...),
		"101 nodes":   wide(101), "17 deep": nested(17),
		"a kid too few": nodes(api.Node{Kind: api.TermList, Kids: 2}, api.Node{Kind: api.TermInt}), "a kid too many": nodes(api.Node{Kind: api.TermList}, api.Node{Kind: api.TermInt}),
		"-1 kids": nodes(api.Node{Kind: api.TermList, Kids: -1}), "the most kids": nodes(api.Node{Kind: api.TermList, Kids: most}),
	}
}

func rightOutputs() map[string]api.Output {
	l := map[string]api.Output{
		"nothing": {}, "to a key": keyOut(val(5)), "to a program": {Address: api.Address{Program: true, Hash: h(7, 8)}}, "to a program of noughts": {Address: api.Address{Program: true}},
		"the most coins": keyOut(val(most)), "2^32 coins": keyOut(val(1 << 32)),
		"one asset": keyOut(val(1, as(1, "a", 1))), "an asset without a name": keyOut(val(1, as(0, "", most))), "two": keyOut(val(1, as(1, "a", 2), as(1, "ab", 1))),
		"29 assets": keyOut(val(0, manyAssets(29)...)), "30 assets": hashOut(h(9, 9), val(0, manyAssets(30)...)), "no assets": keyOut(api.Value{Assets: []api.Asset{}}),
		"a hash": hashOut(h(10, 11), val(1)), "a hash of noughts": hashOut(api.Hash{}, val(1)), "a hash, to a key": {Datum: api.DatumHash, Hash: h(1, 1)},
		"a term, to a key": {Datum: api.DatumInline, Term: termOf(int64(1))}, "no datum, an empty list of nodes": {Term: api.Term{Nodes: []api.Node{}}},
	}
	for name, t := range rightTerms() {
		l["the term "+name] = termOut(t, val(2, as(3, "n", 4)))
	}
	return l
}

func wrongOutputs() map[string]api.Output {
	hashAndTerm, termAndHash := hashOut(h(1, 2), val(1)), termOut(termOf(int64(1)), val(1))
	hashAndTerm.Term, termAndHash.Hash = termOf(int64(1)), h(0, 1)
	l := map[string]api.Output{
		"-1 coins": keyOut(val(-1)), "the least coins": keyOut(val(least)),
		"31 assets": keyOut(val(0, manyAssets(31)...)), "an Amount of 0": keyOut(val(0, as(1, "a", 0))), "an Amount of -1": keyOut(val(0, as(1, "a", -1))),
		"assets that fall": keyOut(val(0, as(2, "", 1), as(1, "", 1))), "an asset twice": keyOut(val(0, as(1, "a", 1), as(1, "a", 1))), "a Name of 33 bytes": keyOut(val(0, as(1, strings.Repeat("n", 33), 1))),
		"Datum 3": {Datum: 3}, "Datum -1": {Datum: -1}, "Datum 256": {Datum: 256}, "the most Datum": {Datum: most},
		"none, and a hash": {Hash: h(0, 1)}, "none, and a term": {Term: termOf(int64(1))}, "a hash, and a term": hashAndTerm, "a term, and a hash": termAndHash,
		"Datum 3, with a term": {Datum: 3, Term: termOf(int64(1))}, "Datum 3, with a hash": {Datum: 3, Hash: h(1, 1)},
	}
	for name, t := range wrongTerms() {
		l["the term "+name] = termOut(t, val(2))
	}
	return l
}

func prog(args int, l ...api.Instr) api.Program { return api.Program{Args: args, Instrs: l} }

func redeemer(purpose api.PurposeKind, place int, t api.Term) api.Redeemer {
	return api.Redeemer{Purpose: purpose, Place: place, Term: t, Budget: api.Budget{Steps: 3, Memory: 4}}
}

// plainSig is a signature of so many hashes, which nobody made.
func plainSig(first byte, n int) api.Signature {
	var s api.Signature
	for i := range n {
		s.Chains = append(s.Chains, h(first, byte(i)))
	}
	return s
}

// idOf is the id of a right transaction.
func idOf(t api.Tx) api.Hash {
	id, _ := tx.Id(t.Body)
	return id
}

// signed is a right transaction with just a signature of each seed.
func signed(t api.Tx, seeds ...string) api.Tx {
	t.Signatures = nil
	for _, s := range seeds {
		t.Signatures = append(t.Signatures, wots.Sign([]byte(s), idOf(t)))
	}
	return t
}

// key is the owner of a seed, as bytes.
func key(seed string) string {
	k := wots.Key([]byte(seed))
	return string(k[:])
}

// small is a right transaction with nothing but one output.
func small() api.Tx { return api.Tx{Body: api.Body{Outputs: outputs(keyOut(val(5)))}} }

// full is a right transaction with something of everything.
func full() api.Tx {
	return signed(api.Tx{
		Body: api.Body{
			Inputs:     refs(ref(0x10, 1, 30), ref(0x10, 2, 0), ref(0x20, 0, 7)),
			Collateral: refs(ref(0x30, 0, 1)),
			Return:     outputs(keyOut(val(33))),
			Outputs: outputs(
				keyOut(val(5)),
				hashOut(h(0x40, 0x41), val(6, as(1, "", 1), as(1, "ab", most))),
				termOut(termOf(listed{int64(-1), "xyz"}), val(most)),
			),
			Fee: 11, From: 12, To: 13,
			Mint: []api.Asset{as(1, "", -4), as(1, "ab", least), as(2, "z", 5)},
			Data: h(0x50, 0x51),
		},
		Programs:  []api.Program{prog(2, api.Instr{Op: api.OpPushInt, Num: 1}, api.Instr{Op: api.OpFail})},
		Terms:     []api.Term{termOf(int64(7)), pairs(2)},
		Redeemers: []api.Redeemer{redeemer(api.PurposeSpend, 0, termOf(int64(9))), redeemer(api.PurposeMint, 1, termOf(listed{}))},
		Valid:     true,
	}, "one", "other")
}

// taken is an entry for each input of a transaction, with outputs of all sorts by turns.
func taken(t api.Tx) []api.Entry {
	sorts := outputs(
		termOut(termOf(tagged{3, listed{int64(4)}}), val(50, as(7, "q", 8))), keyOut(val(60)), hashOut(h(0x60, 0x61), val(70)),
		keyOut(val(80, as(1, "", 1), as(2, "nn", 2))), termOut(pairs(1), val(90)),
	)
	var l []api.Entry
	for i, x := range t.Body.Inputs {
		l = append(l, entry(x, sorts[i%len(sorts)]))
	}
	return l
}

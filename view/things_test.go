package view_test

import (
	"strconv"
	"strings"

	"moidore/api"
)

const (
	least = -1 << 63
	most  = 1<<63 - 1
)

// h is a hash whose first and last bytes are these.
func h(first, last byte) api.Hash {
	var x api.Hash
	x[0], x[31] = first, last
	return x
}

func ref(first, last byte, place int) api.Ref { return api.Ref{Tx: h(first, last), Place: place} }

func as(policy byte, name string, n int64) api.Asset {
	return api.Asset{Policy: h(policy, 0), Name: name, Amount: n}
}

func val(coin int64, l ...api.Asset) api.Value { return api.Value{Coin: coin, Assets: l} }

func tot(policy byte, name string, hi int64, lo uint64) api.Total {
	return api.Total{Policy: h(policy, 0), Name: name, Sum: api.Wide{Hi: hi, Lo: lo}}
}

func nodes(l ...api.Node) api.Term { return api.Term{Nodes: l} }

// plainOut is an output to a key, without a datum.
func plainOut(v api.Value) api.Output {
	return api.Output{Address: api.Address{Hash: h(1, 2)}, Value: v}
}

func entry(x api.Ref, o api.Output) api.Entry { return api.Entry{Ref: x, Output: o} }

// coins is the entry of a number, of so many coins.
func coins(number byte, n int64) api.Entry { return entry(ref(number, 0, 0), plainOut(val(n))) }

func entries(l ...api.Entry) []api.Entry { return l }

func totals(l ...api.Total) []api.Total { return l }

// rising is refs that rise, such that each byte and the Place has its turn.
func rising() []api.Ref {
	return []api.Ref{
		{}, ref(0, 0, 1), ref(0, 0, 30), ref(0, 1, 0), ref(0, 128, 2), ref(1, 0, 0), ref(1, 0, 9), ref(1, 255, 0), ref(2, 0, 5),
		ref(127, 9, 1), ref(128, 0, 0), ref(255, 0, 7), ref(255, 255, 0), ref(255, 255, 30),
	}
}

// hashOut is an output with all but a term: to a program, two assets, the hash of a datum.
func hashOut() api.Output {
	return api.Output{
		Address: api.Address{Program: true, Hash: h(3, 4)},
		Value:   val(7, as(1, "", 5), as(1, "ab", 6)),
		Datum:   api.DatumHash, Hash: h(5, 6),
	}
}

// termOut is an output with a term that has nodes of all kinds.
func termOut() api.Output {
	return api.Output{
		Address: api.Address{Program: true, Hash: h(3, 4)},
		Value:   val(8, as(2, "abc", most)),
		Datum:   api.DatumInline,
		Term: nodes(
			api.Node{Kind: api.TermList, Kids: 4}, api.Node{Kind: api.TermInt, Int: -1}, api.Node{Kind: api.TermBytes, Bytes: "bytes"},
			api.Node{Kind: api.TermTag, Int: 258, Kids: 1}, api.Node{Kind: api.TermReal, Bits: api.NaN},
			api.Node{Kind: api.TermMap, Kids: 2}, api.Node{Kind: api.TermReal, Bits: 1 << 63}, api.Node{Kind: api.TermInt, Int: least},
		),
	}
}

// rightOutputs is right outputs of many sorts, of which no two are the same.
func rightOutputs() []api.Output {
	return []api.Output{
		{}, plainOut(val(1)), plainOut(val(most)), {Address: api.Address{Program: true}}, hashOut(), termOut(),
		{Datum: api.DatumHash}, {Datum: api.DatumInline, Term: nodes(api.Node{Kind: api.TermBytes})},
		plainOut(val(1, manyAssets()...)), plainOut(val(0, as(9, strings.Repeat("n", 32), 1))),
	}
}

func manyAssets() []api.Asset {
	var l []api.Asset
	for i := range byte(30) {
		l = append(l, as(i/3, strings.Repeat("x", int(i%3)), int64(i)+1))
	}
	return l
}

// bends is ways in which a right output is made another right one, each of which turns one part of it.
func bends() map[string]func(o *api.Output) {
	asset := func(turn func(a *api.Asset)) func(o *api.Output) {
		return func(o *api.Output) {
			if n := len(o.Value.Assets); n > 0 {
				turn(&o.Value.Assets[n-1])
			}
		}
	}
	node := func(at int, turn func(n *api.Node)) func(o *api.Output) {
		return func(o *api.Output) {
			if len(o.Term.Nodes) == 8 {
				turn(&o.Term.Nodes[at])
			}
		}
	}
	return map[string]func(o *api.Output){
		"Program":           func(o *api.Output) { o.Address.Program = !o.Address.Program },
		"the Address":       func(o *api.Output) { o.Address.Hash[0] ^= 1 },
		"its last byte":     func(o *api.Output) { o.Address.Hash[31] ^= 128 },
		"a Coin more":       func(o *api.Output) { o.Value.Coin++ },
		"2^32 Coins more":   func(o *api.Output) { o.Value.Coin += 1 << 32 },
		"no Coin":           func(o *api.Output) { o.Value.Coin = 0 },
		"an asset more":     func(o *api.Output) { o.Value.Assets = append(o.Value.Assets, as(250, "", 1)) },
		"an asset less":     func(o *api.Output) { o.Value.Assets = o.Value.Assets[:max(1, len(o.Value.Assets))-1] },
		"no asset":          func(o *api.Output) { o.Value.Assets = nil },
		"a Policy":          asset(func(a *api.Asset) { a.Policy[31] ^= 1 }),
		"a Name":            asset(func(a *api.Asset) { a.Name += "\x00" }),
		"a Name's byte":     asset(func(a *api.Asset) { a.Name = "z" + a.Name[min(1, len(a.Name)):] }),
		"an Amount":         asset(func(a *api.Asset) { a.Amount ^= 2 }),
		"a hash instead":    func(o *api.Output) { o.Datum, o.Hash, o.Term = api.DatumHash, h(8, 8), api.Term{} },
		"a hash of noughts": func(o *api.Output) { o.Datum, o.Hash, o.Term = api.DatumHash, api.Hash{}, api.Term{} },
		"no datum":          func(o *api.Output) { o.Datum, o.Hash, o.Term = api.DatumNone, api.Hash{}, api.Term{} },
		"a term instead": func(o *api.Output) {
			o.Datum, o.Hash, o.Term = api.DatumInline, api.Hash{}, nodes(api.Node{Kind: api.TermInt})
		},
		"the Hash": func(o *api.Output) {
			if o.Datum == api.DatumHash {
				o.Hash[31] ^= 1
			}
		},
		"a node's kind":    node(1, func(n *api.Node) { *n = api.Node{Kind: api.TermBytes} }),
		"an int":           node(1, func(n *api.Node) { n.Int = 1 }),
		"bytes":            node(2, func(n *api.Node) { n.Bytes = "byteS" }),
		"fewer bytes":      node(2, func(n *api.Node) { n.Bytes = "byte" }),
		"a tag":            node(3, func(n *api.Node) { n.Int = 2 }),
		"a real":           node(4, func(n *api.Node) { n.Bits = 1 }),
		"0, and not -0":    node(6, func(n *api.Node) { n.Bits = 0 }),
		"the last node":    node(7, func(n *api.Node) { n.Int = most }),
		"a list and a tag": node(0, func(n *api.Node) { *n = api.Node{Kind: api.TermTag, Int: 4, Kids: 4} }),
	}
}

// wrongOutputs is outputs that are not right.
func wrongOutputs() map[string]api.Output {
	return map[string]api.Output{
		"a Coin below 0":       plainOut(val(-1)),
		"the least Coin":       plainOut(val(least)),
		"an Amount of 0":       plainOut(val(1, as(1, "", 0))),
		"an asset twice":       plainOut(val(1, as(1, "a", 1), as(1, "a", 1))),
		"31 assets":            plainOut(val(1, append(manyAssets(), as(250, "", 1))...)),
		"a Name of 33 bytes":   plainOut(val(1, as(1, strings.Repeat("n", 33), 1))),
		"no datum, a hash":     {Hash: h(0, 1)},
		"no datum, a term":     {Term: termOut().Term},
		"a hash, and a term":   {Datum: api.DatumHash, Hash: h(1, 1), Term: termOut().Term},
		"a term, and a hash":   {Datum: api.DatumInline, Hash: h(1, 1), Term: termOut().Term},
		"a term without nodes": {Datum: api.DatumInline},
		"a node too few":       {Datum: api.DatumInline, Term: nodes(termOut().Term.Nodes[:7]...)},
		"another NaN":          {Datum: api.DatumInline, Term: nodes(api.Node{Kind: api.TermReal, Bits: api.NaN + 1})},
		"the most kids":        {Datum: api.DatumInline, Term: nodes(api.Node{Kind: api.TermList, Kids: most})},
		"the datum 3":          {Datum: 3},
		"the datum -1":         {Datum: -1},
	}
}

// wrongLists is entries that are no view.
func wrongLists() map[string][]api.Entry {
	a, b, c := coins(10, 1), coins(20, 2), coins(30, 3)
	l := map[string][]api.Entry{
		"a ref twice":           entries(a, a),
		"a ref twice, outputs":  entries(a, coins(10, 2)),
		"a ref twice, far off":  entries(a, b, a),
		"two that fall":         entries(b, a),
		"three, the last falls": entries(a, c, b),
		"three, the first too":  entries(c, b, a),
		"places that fall":      entries(entry(ref(10, 0, 2), plainOut(val(1))), entry(ref(10, 0, 1), plainOut(val(1)))),
		"last bytes that fall":  entries(entry(ref(10, 2, 0), plainOut(val(1))), entry(ref(10, 1, 5), plainOut(val(1)))),
		"128 ahead of 127":      entries(coins(128, 1), coins(127, 1)),
	}
	for _, place := range []int{-1, 31, 256, 65536, 1 << 32, least, most} {
		l["the place "+strconv.Itoa(place)] = entries(entry(ref(10, 0, place), plainOut(val(1))))
		l["the last one's place "+strconv.Itoa(place)] = entries(a, b, entry(ref(30, 0, place), plainOut(val(1))))
	}
	for name, o := range wrongOutputs() {
		l["the output: "+name] = entries(entry(ref(10, 0, 0), o))
		l["the last one's output: "+name] = entries(a, b, entry(ref(30, 0, 0), o))
	}
	return l
}

// wrongDiffs is diffs that are not right.
func wrongDiffs() map[string]api.Diff {
	few := func() api.Diff {
		return api.Diff{Spent: entries(coins(10, 1)), Made: entries(coins(15, 5), coins(20, 2)), Fees: 3, Forfeits: 4, Mint: totals(tot(1, "a", 0, 5))}
	}
	l := map[string]api.Diff{
		"the Fees -1 alone":     {Fees: -1},
		"the Forfeits -1 alone": {Forfeits: -1},
		"a sum of 0 alone":      {Mint: totals(tot(1, "", 0, 0))},
		"spent and made":        {Spent: entries(coins(10, 1)), Made: entries(coins(10, 1))},
		"spent and made anew":   {Spent: entries(coins(10, 1)), Made: entries(coins(5, 1), coins(10, 2))},
		"two, spent and made":   {Spent: entries(coins(10, 1), coins(20, 2)), Made: entries(coins(20, 2), coins(30, 3))},
	}
	bend := func(name string, turn func(d *api.Diff)) {
		d := few()
		turn(&d)
		l[name] = d
	}
	bend("the Fees -1", func(d *api.Diff) { d.Fees = -1 })
	bend("the least Fees", func(d *api.Diff) { d.Fees = least })
	bend("the Forfeits -1", func(d *api.Diff) { d.Forfeits = -1 })
	bend("the least Forfeits", func(d *api.Diff) { d.Forfeits = least })
	bend("a sum of 0", func(d *api.Diff) { d.Mint = totals(tot(1, "a", 0, 0)) })
	bend("a name twice", func(d *api.Diff) { d.Mint = totals(tot(1, "a", 0, 1), tot(1, "a", 0, 1)) })
	bend("names that fall", func(d *api.Diff) { d.Mint = totals(tot(2, "", 0, 1), tot(1, "", 0, 1)) })
	bend("a name of 33 bytes", func(d *api.Diff) { d.Mint = totals(tot(1, strings.Repeat("n", 33), 0, 1)) })
	for name, row := range wrongLists() {
		l["Spent: "+name] = api.Diff{Spent: row, Fees: 1}
		l["Made: "+name] = api.Diff{Made: row, Fees: 1}
		l["Spent, beside Made: "+name] = api.Diff{Spent: row, Made: entries(coins(40, 4))}
		l["Made, beside Spent: "+name] = api.Diff{Spent: entries(coins(5, 4)), Made: row}
	}
	return l
}

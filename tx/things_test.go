package tx

import (
	"fmt"
	"slices"
	"strings"

	"moidore/api"
)

// part is where a transaction is bent.
type part int

const (
	inBody       part = iota
	inSignatures      // neither in the id nor in the data's hash, as is Valid
	inData
	inAll // just all its bytes are too many
)

// bend is how a right transaction becomes another one.
type bend struct {
	name string
	part part
	do   func(*api.Tx)
}

type bends []bend

func (l *bends) add(p part, name string, do func(*api.Tx)) { *l = append(*l, bend{name, p, do}) }

// bent is the full transaction, bent so.
func (x bend) bent() api.Tx {
	t := full()
	x.do(&t)
	return t
}

// many is so many times one thing.
func many[T any](n int, x T) []T { return slices.Repeat([]T{x}, n) }

// amid is a thing ahead of others, amid them, behind them, and alone.
func amid[T any](x T, others ...T) map[string][]T {
	return map[string][]T{
		"first": append([]T{x}, others...),
		"last":  append(slices.Clone(others), x),
		"amid":  slices.Concat(others, []T{x}, others),
		"alone": {x},
	}
}

// nums is so many terms, ints that rise.
func nums(n int) []api.Term {
	l := make([]api.Term, n)
	for i := range l {
		l[i] = num(int64(i))
	}
	return l
}

// nested is a term that is so deep, of lists of one.
func nested(deep int) api.Term {
	t := num(7)
	for range deep - 1 {
		t = list(t)
	}
	return t
}

func rightTerms() map[string]api.Term {
	return map[string]api.Term{
		"an int": num(least), "bytes": text("ab"), "no bytes": text(""), "200 bytes": text(strings.Repeat("z", 200)),
		"a real": realOf(0x3FF0000000000000), "-0": realOf(1 << 63), "NaN": realOf(api.NaN),
		"a list": list(num(1), list(), text("x")), "a tag": tag(1<<31-1, num(2)), "a map": pairs(num(1), num(2), num(2), num(1)),
		"100 nodes": list(nums(99)...), "16 deep": nested(16),
	}
}

func wrongTerms() map[string]api.Term {
	return map[string]api.Term{
		"none": {}, "an empty one": {Nodes: []api.Node{}},
		"no kind": nodes(api.Node{}), "kind 7": nodes(api.Node{Kind: 7}), "kind -1": nodes(api.Node{Kind: -1}),
		"an int with bytes": nodes(api.Node{Kind: api.TermInt, Bytes: "a"}), "201 bytes": text(strings.Repeat("z", 201)), "another NaN": realOf(api.NaN + 1),
		"tag -1": tag(-1), "a key alone": pairs(num(1)), "a key twice": pairs(num(1), num(1), num(1), num(1)),
		"101 nodes": list(nums(100)...), "17 deep": nested(17),
		"a kid too few": nodes(api.Node{Kind: api.TermList, Kids: 2}, api.Node{Kind: api.TermInt}), "a kid too many": nodes(api.Node{Kind: api.TermList}, api.Node{Kind: api.TermInt}),
		"-1 kids": nodes(api.Node{Kind: api.TermList, Kids: -1}), "many kids": nodes(api.Node{Kind: api.TermList, Kids: most}),
	}
}

// assets is so many assets that rise.
func assets(n int) []api.Asset {
	var l []api.Asset
	for i := range n {
		l = append(l, as(byte(i/2), strings.Repeat("x", i%2*32), int64(i+1)))
	}
	return l
}

func rightOutputs() map[string]api.Output {
	l := map[string]api.Output{
		"nothing": {}, "the most coins": keyOut(val(most)), "30 assets": keyOut(val(0, assets(30)...)),
		"a hash": hashOut(val(1), h(1, 2)), "a hash of noughts": hashOut(val(1), api.Hash{}),
	}
	for name, t := range rightTerms() {
		l["the term "+name] = termOut(val(2), t)
	}
	return l
}

func wrongOutputs() map[string]api.Output {
	twice := hashOut(val(1), h(1, 2))
	twice.Term = num(1)
	both := termOut(val(1), num(1))
	both.Hash = h(0, 1)
	l := map[string]api.Output{
		"-1 coins": keyOut(val(-1)), "the least coins": keyOut(val(least)), "31 assets": keyOut(val(0, assets(31)...)),
		"an asset of 0": keyOut(val(0, as(1, "a", 0))), "an asset of -1": keyOut(val(0, as(1, "a", -1))), "assets that fall": keyOut(val(0, as(2, "", 1), as(1, "", 1))),
		"Datum 3": {Datum: 3}, "Datum -1": {Datum: -1}, "Datum 256": {Datum: 256},
		"none, and a hash": {Hash: h(0, 1)}, "none, and a term": {Term: num(1)}, "a hash, and a term": twice, "a term, and a hash": both,
	}
	for name, t := range wrongTerms() {
		l["the term "+name] = termOut(val(2), t)
	}
	return l
}

func rightPrograms() map[string]api.Program {
	l := map[string]api.Program{
		"OpDone": prog(0, api.Instr{Op: api.OpDone}), "3 Args": prog(3, api.Instr{Op: api.OpDone}),
		"300 instructions": prog(1, many(300, api.Instr{Op: api.OpFail})...), "OpJump": prog(2, api.Instr{Op: api.OpJump, Num: 299}),
	}
	for name, t := range rightTerms() {
		l["the term "+name] = prog(2, api.Instr{Op: api.OpPushTerm, Term: t})
	}
	return l
}

func wrongPrograms() map[string]api.Program {
	l := map[string]api.Program{
		"nothing": {}, "no instructions": prog(1), "4 Args": prog(4, api.Instr{Op: api.OpDone}), "-1 Args": prog(-1, api.Instr{Op: api.OpDone}),
		"301 instructions": prog(1, many(301, api.Instr{Op: api.OpFail})...), "Op 0": prog(1, api.Instr{}), "Op 51": prog(1, api.Instr{Op: 51}),
		"OpJump 300": prog(1, api.Instr{Op: api.OpJump, Num: 300}), "OpTake -1": prog(1, api.Instr{Op: api.OpTake, Num: -1}), "OpAdd with a Num": prog(1, api.Instr{Op: api.OpAdd, Num: 1}),
	}
	for name, t := range wrongTerms() {
		l["the term "+name] = prog(2, api.Instr{Op: api.OpPushTerm, Term: t})
	}
	return l
}

// rightBends is how a transaction stays a right one.
func rightBends() []bend {
	var l bends
	l.add(inBody, "as it is", func(t *api.Tx) {})
	l.add(inAll, "nothing", func(t *api.Tx) { *t = api.Tx{} })
	rightBodies(&l)
	rightRest(&l)
	rightSizes(&l)
	return l
}

func rightBodies(l *bends) {
	for _, n := range []int{0, 1, 29, 30} {
		l.add(inBody, fmt.Sprintf("%d Inputs", n), func(t *api.Tx) { t.Body.Inputs = many(n, ref(1, 2, 3)) })
		l.add(inBody, fmt.Sprintf("%d Collateral", n), func(t *api.Tx) { t.Body.Collateral = many(n, ref(1, 2, 3)) })
		l.add(inBody, fmt.Sprintf("%d Outputs", n), func(t *api.Tx) { t.Body.Outputs = many(n, keyOut(val(1))) })
		l.add(inBody, fmt.Sprintf("the Place %d", n), func(t *api.Tx) { t.Body.Inputs[1].Place = n })
		l.add(inBody, fmt.Sprintf("the Place %d of Collateral", n), func(t *api.Tx) { t.Body.Collateral[0].Place = n })
	}
	l.add(inBody, "no Return", func(t *api.Tx) { t.Body.Return = nil })
	l.add(inBody, "refs that fall", func(t *api.Tx) {
		t.Body.Inputs = []api.Ref{ref(2, 0, 1), ref(2, 0, 0), ref(1, 0, 5)}
		t.Body.Collateral = []api.Ref{ref(2, 1, 0), ref(2, 0, 0)}
	})
	l.add(inBody, "refs that rise", func(t *api.Tx) { t.Body.Inputs = []api.Ref{ref(2, 0, 0), ref(2, 0, 1), ref(3, 0, 0)} })
	l.add(inBody, "refs that stand twice", func(t *api.Tx) {
		t.Body.Inputs = many(2, ref(2, 0, 1))
		t.Body.Collateral = many(2, ref(2, 0, 1))
	})
	for name, o := range rightOutputs() {
		l.add(inBody, name+" of the Return", func(t *api.Tx) { t.Body.Return = []api.Output{o} })
		for where, m := range amid(o, keyOut(val(1))) {
			l.add(inBody, name+" of the Outputs, "+where, func(t *api.Tx) { t.Body.Outputs = m })
		}
	}
	for _, n := range []int64{0, 1, 1<<40 + 1, most - 1, most} {
		l.add(inBody, fmt.Sprintf("the Fee %d", n), func(t *api.Tx) { t.Body.Fee = n })
	}
	for _, n := range []int64{0, 1, 1<<40 - 1, 1 << 40} {
		l.add(inBody, fmt.Sprintf("From %d", n), func(t *api.Tx) { t.Body.From = n })
		l.add(inBody, fmt.Sprintf("To %d", n), func(t *api.Tx) { t.Body.From, t.Body.To = 5, n })
	}
	l.add(inBody, "To -1", func(t *api.Tx) { t.Body.To = -1 })
	for name, m := range map[string][]api.Asset{
		"none": nil, "an empty list": {}, "an Amount below 0": {as(1, "a", -1)}, "the least": {as(1, "a", least)}, "the most": {as(1, "a", most)},
		"30": assets(30), "one Name of two Policies": {as(1, "a", 1), as(2, "a", 1)}, "a Name that goes on": {as(1, "a", 1), as(1, "aa", 1)},
	} {
		l.add(inBody, "Mint "+name, func(t *api.Tx) { t.Body.Mint = m })
	}
	l.add(inBody, "Data of noughts", func(t *api.Tx) { t.Body.Data = api.Hash{} })
}

func rightRest(l *bends) {
	for _, n := range []int{0, 1, 59, 60} {
		l.add(inSignatures, fmt.Sprintf("%d Signatures", n), func(t *api.Tx) { t.Signatures = many(n, sig(1, 35)) })
		l.add(inData, fmt.Sprintf("%d Redeemers", n), func(t *api.Tx) { t.Redeemers = many(n, t.Redeemers[0]) })
	}
	l.add(inSignatures, "unlike Signatures", func(t *api.Tx) {
		t.Signatures = []api.Signature{sig(3, 35), {Chains: make([]api.Hash, 35)}, sig(2, 35)}
	})
	l.add(inSignatures, "not valid", func(t *api.Tx) { t.Valid = false })
	for _, n := range []int{0, 1, 9, 10} {
		l.add(inData, fmt.Sprintf("%d Programs", n), func(t *api.Tx) { t.Programs = many(n, t.Programs[0]) })
		l.add(inData, fmt.Sprintf("%d Terms", n), func(t *api.Tx) { t.Terms = many(n, t.Terms[0]) })
	}
	for name, p := range rightPrograms() {
		for where, m := range amid(p, full().Programs...) {
			l.add(inData, fmt.Sprintf("the program %s, %s", name, where), func(t *api.Tx) { t.Programs = m })
		}
	}
	for name, x := range rightTerms() {
		for where, m := range amid(x, full().Terms...) {
			l.add(inData, fmt.Sprintf("the term %s, %s", name, where), func(t *api.Tx) { t.Terms = m })
		}
		l.add(inData, fmt.Sprintf("the term %s of a redeemer", name), func(t *api.Tx) { t.Redeemers[1].Term = x })
	}
	for _, n := range []api.PurposeKind{1, 2} {
		l.add(inData, fmt.Sprintf("Purpose %d", n), func(t *api.Tx) { t.Redeemers[0].Purpose = n })
	}
	for _, n := range []int{0, 1, 255, 256, 65534, 65535} {
		l.add(inData, fmt.Sprintf("the Place %d of a redeemer", n), func(t *api.Tx) { t.Redeemers[0].Place = n })
	}
	for _, n := range []int64{0, 1, 1<<20 - 1, 1 << 20} {
		l.add(inData, fmt.Sprintf("%d Steps", n), func(t *api.Tx) { t.Redeemers[1].Budget.Steps = n })
		l.add(inData, fmt.Sprintf("%d Memory", n), func(t *api.Tx) { t.Redeemers[1].Budget.Memory = n })
	}
}

func rightSizes(l *bends) {
	for _, n := range []int{1<<18 - 1, 1 << 18} {
		l.add(inAll, fmt.Sprintf("%d bytes", n), func(t *api.Tx) { *t = padded(*t, n) })
		l.add(inAll, fmt.Sprintf("%d bytes of next to nothing else", n), func(t *api.Tx) { *t = padded(api.Tx{}, n) })
		l.add(inAll, fmt.Sprintf("%d bytes, with 60 Signatures", n), func(t *api.Tx) {
			t.Signatures = many(60, sig(1, 35))
			*t = padded(*t, n)
		})
		l.add(inAll, fmt.Sprintf("%d bytes, most of them of Outputs", n), func(t *api.Tx) {
			t.Body.Outputs = many(12, termOut(val(1), termOf(20000)))
			*t = padded(*t, n)
		})
	}
}

// wrongBends is how a transaction becomes one that is not right.
func wrongBends() []bend {
	var l bends
	wrongRows(&l)
	wrongBodies(&l)
	wrongRedeemers(&l)
	wrongData(&l)
	wrongSizes(&l)
	return l
}

// wrongRows is rows with more than may be, also as many more as two bytes do not tell.
func wrongRows(l *bends) {
	for _, n := range []int{1, 2, 1 << 16} {
		l.add(inBody, fmt.Sprintf("%d Inputs", 30+n), func(t *api.Tx) { t.Body.Inputs = many(30+n, ref(1, 2, 3)) })
		l.add(inBody, fmt.Sprintf("%d Collateral", 30+n), func(t *api.Tx) { t.Body.Collateral = many(30+n, ref(1, 2, 3)) })
		l.add(inBody, fmt.Sprintf("%d Outputs", 30+n), func(t *api.Tx) { t.Body.Outputs = many(30+n, keyOut(val(1))) })
		l.add(inBody, fmt.Sprintf("%d Returns", 1+n), func(t *api.Tx) { t.Body.Return = many(1+n, keyOut(val(1))) })
		l.add(inSignatures, fmt.Sprintf("%d Signatures", 60+n), func(t *api.Tx) { t.Signatures = many(60+n, sig(1, 35)) })
		l.add(inData, fmt.Sprintf("%d Programs", 10+n), func(t *api.Tx) { t.Programs = many(10+n, t.Programs[0]) })
		l.add(inData, fmt.Sprintf("%d Terms", 10+n), func(t *api.Tx) { t.Terms = many(10+n, t.Terms[0]) })
		l.add(inData, fmt.Sprintf("%d Redeemers", 60+n), func(t *api.Tx) { t.Redeemers = many(60+n, t.Redeemers[0]) })
	}
	for _, n := range []int{0, 1, 34, 36, 70, 1 << 16, 1<<16 + 35} {
		for where, m := range amid(sig(9, n), sig(1, 35)) {
			l.add(inSignatures, fmt.Sprintf("a signature of %d hashes, %s", n, where), func(t *api.Tx) { t.Signatures = m })
		}
	}
}

func wrongBodies(l *bends) {
	for _, n := range []int{-1, 31, 32, 255, 256, 65535, 65536, 1 << 32, least, most} {
		for where, m := range amid(ref(1, 2, n), ref(3, 4, 5)) {
			l.add(inBody, fmt.Sprintf("the Place %d of Inputs, %s", n, where), func(t *api.Tx) { t.Body.Inputs = m })
			l.add(inBody, fmt.Sprintf("the Place %d of Collateral, %s", n, where), func(t *api.Tx) { t.Body.Collateral = m })
		}
	}
	for name, o := range wrongOutputs() {
		l.add(inBody, name+" of the Return", func(t *api.Tx) { t.Body.Return = []api.Output{o} })
		for where, m := range amid(o, keyOut(val(1))) {
			l.add(inBody, name+" of the Outputs, "+where, func(t *api.Tx) { t.Body.Outputs = m })
		}
	}
	for _, n := range []int64{-1, -2, least, least + 1} {
		l.add(inBody, fmt.Sprintf("the Fee %d", n), func(t *api.Tx) { t.Body.Fee = n })
	}
	for _, n := range []int64{1<<40 + 1, 1<<40 + 2, 1 << 41, most, least, -2} {
		l.add(inBody, fmt.Sprintf("From %d", n), func(t *api.Tx) { t.Body.From = n })
		l.add(inBody, fmt.Sprintf("To %d", n), func(t *api.Tx) { t.Body.To = n })
	}
	l.add(inBody, "From -1", func(t *api.Tx) { t.Body.From = -1 })
	for name, m := range map[string][]api.Asset{
		"an Amount of 0": {as(1, "a", 0)}, "one amid others": {as(1, "", 1), as(1, "a", 0), as(1, "b", 1)}, "twice the same": {as(1, "a", 1), as(1, "a", 2)},
		"Names that fall": {as(1, "b", 1), as(1, "a", 1)}, "Policies that fall": {as(2, "a", 1), as(1, "b", 1)},
		"31": assets(31), "very many": assets(500), "a Name of 33 bytes": {as(1, strings.Repeat("x", 33), 1)},
	} {
		l.add(inBody, "Mint "+name, func(t *api.Tx) { t.Body.Mint = m })
	}
}

func wrongRedeemers(l *bends) {
	for i := range 2 {
		at := fmt.Sprintf(" of the redeemer %d", i)
		for _, n := range []api.PurposeKind{0, 3, 4, -1, 255, 256, 257, 258, least, most} {
			l.add(inData, fmt.Sprintf("Purpose %d", n)+at, func(t *api.Tx) { t.Redeemers[i].Purpose = n })
		}
		for _, n := range []int{-1, 65536, 65537, 1 << 32, least, most} {
			l.add(inData, fmt.Sprintf("the Place %d", n)+at, func(t *api.Tx) { t.Redeemers[i].Place = n })
		}
		for _, n := range []int64{-1, 1<<20 + 1, 1 << 21, 1 << 40, least, most} {
			l.add(inData, fmt.Sprintf("%d Steps", n)+at, func(t *api.Tx) { t.Redeemers[i].Budget.Steps = n })
			l.add(inData, fmt.Sprintf("%d Memory", n)+at, func(t *api.Tx) { t.Redeemers[i].Budget.Memory = n })
		}
		for name, x := range wrongTerms() {
			l.add(inData, "the term "+name+at, func(t *api.Tx) { t.Redeemers[i].Term = x })
		}
	}
}

func wrongData(l *bends) {
	for name, p := range wrongPrograms() {
		for where, m := range amid(p, full().Programs...) {
			l.add(inData, fmt.Sprintf("the program %s, %s", name, where), func(t *api.Tx) { t.Programs = m })
		}
	}
	for name, x := range wrongTerms() {
		for where, m := range amid(x, full().Terms...) {
			l.add(inData, fmt.Sprintf("the term %s, %s", name, where), func(t *api.Tx) { t.Terms = m })
		}
	}
}

func wrongSizes(l *bends) {
	for _, n := range []int{1<<18 + 1, 1<<18 + 2, 1<<18 + 1<<16, 1 << 19} {
		l.add(inAll, fmt.Sprintf("%d bytes", n), func(t *api.Tx) { *t = padded(*t, n) })
		l.add(inAll, fmt.Sprintf("%d bytes of next to nothing else", n), func(t *api.Tx) { *t = padded(api.Tx{}, n) })
	}
	l.add(inAll, "very many bytes of Outputs", func(t *api.Tx) { t.Body.Outputs = many(30, termOut(val(1), termOf(20000))) })
	l.add(inAll, "very many bytes of Programs", func(t *api.Tx) {
		t.Programs = many(10, prog(1, many(30, api.Instr{Op: api.OpPushTerm, Term: termOf(9000)})...))
	})
}

// padded is a transaction with redeemers more, so that it has just so many bytes.
func padded(t api.Tx, n int) api.Tx {
	left := n - len(txBytes(t))
	parts := (left + 19999) / 20000
	t.Redeemers = slices.Clone(t.Redeemers)
	for i := range parts {
		x := redeemer(api.PurposeMint, i, termOf(100), 1, 2)
		x.Term = termOf((left*(i+1)/parts - left*i/parts) - (len(redeemerBytes(x)) - 100))
		t.Redeemers = append(t.Redeemers, x)
	}
	return t
}

// termOf is a list of bytes, so that it has just so many bytes, 6 or more.
func termOf(n int) api.Term {
	n -= 3
	parts := (n + 202) / 203
	var l []api.Term
	for i := range parts {
		l = append(l, text(strings.Repeat("y", n*(i+1)/parts-n*i/parts-3)))
	}
	return list(l...)
}

package scene_test

import (
	"fmt"
	"slices"
	"strings"

	"moidore/api"
	"moidore/tx"
)

// bend is how the full transaction becomes another one.
type bend struct {
	name string
	do   func(*api.Tx)
}

type bends []bend

func (l *bends) add(name string, do func(*api.Tx)) { *l = append(*l, bend{name, do}) }

func (x bend) bent() api.Tx {
	t := full()
	x.do(&t)
	return t
}

// rightBends is how a transaction stays a right one. Its signatures are those of its id ahead of that.
func rightBends() []bend {
	var l bends
	l.add("as it is", func(t *api.Tx) {})
	l.add("nothing", func(t *api.Tx) { *t = api.Tx{} })
	l.add("nothing but one output", func(t *api.Tx) { *t = small() })
	for _, n := range []int{0, 1, 29, 30} {
		l.add(fmt.Sprint(n, " Inputs"), func(t *api.Tx) { t.Body.Inputs = many(n, ref(1, 2, 3)) })
		l.add(fmt.Sprint(n, " Outputs"), func(t *api.Tx) { t.Body.Outputs = many(n, keyOut(val(1))) })
		l.add(fmt.Sprint(n, " Collateral"), func(t *api.Tx) { t.Body.Collateral = many(n, ref(1, 2, 3)) })
		l.add(fmt.Sprint(n, " assets minted"), func(t *api.Tx) { t.Body.Mint = manyAssets(n) })
		l.add(fmt.Sprint("the Place ", n), func(t *api.Tx) { t.Body.Inputs[1].Place = n })
	}
	l.add("inputs that fall", func(t *api.Tx) { t.Body.Inputs = refs(ref(2, 0, 1), ref(2, 0, 0), ref(1, 0, 5)) })
	l.add("no Return", func(t *api.Tx) { t.Body.Return = nil })
	for name, o := range rightOutputs() {
		l.add("the Return: "+name, func(t *api.Tx) { t.Body.Return = outputs(o) })
		l.add("the first Output: "+name, func(t *api.Tx) { t.Body.Outputs[0] = o })
		l.add("the last Output: "+name, func(t *api.Tx) { t.Body.Outputs[2] = o })
		l.add("the Outputs: "+name, func(t *api.Tx) { t.Body.Outputs = outputs(o) })
	}
	for _, n := range []int64{0, 1, 255, 1 << 32, 1 << 40} {
		l.add(fmt.Sprint("the Fee ", n), func(t *api.Tx) { t.Body.Fee = n })
		l.add(fmt.Sprint("From ", n), func(t *api.Tx) { t.Body.From = n })
		l.add(fmt.Sprint("To ", n), func(t *api.Tx) { t.Body.To = n })
	}
	l.add("the most Fee", func(t *api.Tx) { t.Body.Fee = most })
	l.add("To -1", func(t *api.Tx) { t.Body.To = -1 })
	for _, n := range []int64{least, -1 << 32, -1, 1, 1 << 32, most} {
		l.add(fmt.Sprint("minted ", n), func(t *api.Tx) { t.Body.Mint[1].Amount = n })
		l.add(fmt.Sprint("minted just ", n), func(t *api.Tx) { t.Body.Mint = []api.Asset{as(0, "", n)} })
	}
	l.add("a Name of 32 bytes", func(t *api.Tx) { t.Body.Mint[2].Name = strings.Repeat("\xff", 32) })
	rightRest(&l)
	return l
}

func rightRest(l *bends) {
	for _, n := range []int{0, 1, 2, 59, 60} {
		l.add(fmt.Sprint(n, " Signatures"), func(t *api.Tx) {
			t.Signatures = nil
			for i := range n {
				t.Signatures = append(t.Signatures, plainSig(byte(i), 35))
			}
		})
		l.add(fmt.Sprint(n, " Redeemers"), func(t *api.Tx) { t.Redeemers = many(n, t.Redeemers[0]) })
	}
	l.add("one signature twice", func(t *api.Tx) { t.Signatures = many(2, t.Signatures[1]) })
	l.add("signatures turned round", func(t *api.Tx) { slices.Reverse(t.Signatures) })
	for _, n := range []int{0, 10} {
		l.add(fmt.Sprint(n, " Programs"), func(t *api.Tx) { t.Programs = many(n, t.Programs[0]) })
		l.add(fmt.Sprint(n, " Terms"), func(t *api.Tx) { t.Terms = many(n, t.Terms[0]) })
	}
	l.add("not valid", func(t *api.Tx) { t.Valid = false })
	l.add("Data of noughts", func(t *api.Tx) { t.Body.Data = api.Hash{} })
	l.add("2^18 bytes", func(t *api.Tx) { *t = padded(*t, 1<<18) })
}

// wrongBends is how a transaction becomes one that is not right, part by part.
func wrongBends() []bend {
	var l bends
	for _, n := range []int{1, 1 << 16} {
		l.add(fmt.Sprint(30+n, " Inputs"), func(t *api.Tx) { t.Body.Inputs = many(30+n, ref(1, 2, 3)) })
		l.add(fmt.Sprint(30+n, " Collateral"), func(t *api.Tx) { t.Body.Collateral = many(30+n, ref(1, 2, 3)) })
		l.add(fmt.Sprint(1+n, " Returns"), func(t *api.Tx) { t.Body.Return = many(1+n, keyOut(val(1))) })
		l.add(fmt.Sprint(30+n, " Outputs"), func(t *api.Tx) { t.Body.Outputs = many(30+n, keyOut(val(1))) })
		l.add(fmt.Sprint(60+n, " Signatures"), func(t *api.Tx) { t.Signatures = many(60+n, t.Signatures[0]) })
		l.add(fmt.Sprint(10+n, " Programs"), func(t *api.Tx) { t.Programs = many(10+n, t.Programs[0]) })
		l.add(fmt.Sprint(10+n, " Terms"), func(t *api.Tx) { t.Terms = many(10+n, t.Terms[0]) })
		l.add(fmt.Sprint(60+n, " Redeemers"), func(t *api.Tx) { t.Redeemers = many(60+n, t.Redeemers[0]) })
	}
	for _, n := range []int{-1, 31, 32, 1 << 16, 1 << 32, least, most} {
		for i := range 3 {
			l.add(fmt.Sprint("the Place ", n, " of the input ", i), func(t *api.Tx) { t.Body.Inputs[i].Place = n })
		}
		l.add(fmt.Sprint("the Place ", n, " of Collateral"), func(t *api.Tx) { t.Body.Collateral[0].Place = n })
	}
	for name, o := range wrongOutputs() {
		l.add("the Return: "+name, func(t *api.Tx) { t.Body.Return = outputs(o) })
		for i := range 3 {
			l.add(fmt.Sprint("the Output ", i, ": ", name), func(t *api.Tx) { t.Body.Outputs[i] = o })
		}
	}
	for _, n := range []int64{-1, least} {
		l.add(fmt.Sprint("the Fee ", n), func(t *api.Tx) { t.Body.Fee = n })
		l.add(fmt.Sprint("From ", n), func(t *api.Tx) { t.Body.From = n })
		l.add(fmt.Sprint("To ", n-1), func(t *api.Tx) { t.Body.To = min(n-1, -2) })
	}
	for _, n := range []int64{1<<40 + 1, most} {
		l.add(fmt.Sprint("From ", n), func(t *api.Tx) { t.Body.From = n })
		l.add(fmt.Sprint("To ", n), func(t *api.Tx) { t.Body.To = n })
	}
	for name, m := range map[string][]api.Asset{
		"an Amount of 0": {as(1, "a", 0)}, "twice the same": {as(1, "a", 1), as(1, "a", 2)}, "Names that fall": {as(1, "b", 1), as(1, "a", 1)},
		"Policies that fall": {as(2, "a", 1), as(1, "b", 1)}, "31": manyAssets(31), "a Name of 33 bytes": {as(1, strings.Repeat("x", 33), 1)},
	} {
		l.add("Mint: "+name, func(t *api.Tx) { t.Body.Mint = m })
	}
	wrongRest(&l)
	return l
}

func wrongRest(l *bends) {
	for _, n := range []int{0, 1, 34, 36, 70} {
		for i := range 2 {
			l.add(fmt.Sprint("the signature ", i, " of ", n, " hashes"), func(t *api.Tx) { t.Signatures[i] = plainSig(9, n) })
		}
	}
	for name, p := range map[string]api.Program{
		"nothing": {}, "no instructions": prog(1), "4 Args": prog(4, api.Instr{Op: api.OpDone}), "301 instructions": prog(1, many(301, api.Instr{Op: api.OpFail})...), "Op 51": prog(1, api.Instr{Op: 51}),
	} {
		l.add("a program: "+name, func(t *api.Tx) { t.Programs = append(t.Programs, p) })
	}
	for name, x := range wrongTerms() {
		l.add("a program's term: "+name, func(t *api.Tx) { t.Programs[0].Instrs[0] = api.Instr{Op: api.OpPushTerm, Term: x} })
		l.add("a term: "+name, func(t *api.Tx) { t.Terms[1] = x })
		l.add("a redeemer's term: "+name, func(t *api.Tx) { t.Redeemers[1].Term = x })
	}
	for _, n := range []int{-1, 0, 3, 257} {
		l.add(fmt.Sprint("a redeemer of the purpose ", n), func(t *api.Tx) { t.Redeemers[0].Purpose = api.PurposeKind(n) })
	}
	for _, n := range []int{-1, 1 << 16} {
		l.add(fmt.Sprint("a redeemer at the place ", n), func(t *api.Tx) { t.Redeemers[0].Place = n })
	}
	for _, n := range []int64{-1, 1<<20 + 1} {
		l.add(fmt.Sprint("a redeemer of ", n, " steps"), func(t *api.Tx) { t.Redeemers[1].Budget.Steps = n })
		l.add(fmt.Sprint("a redeemer of ", n, " memory"), func(t *api.Tx) { t.Redeemers[1].Budget.Memory = n })
	}
	l.add("2^18 + 1 bytes", func(t *api.Tx) { *t = padded(*t, 1<<18+1) })
}

// padded is a transaction that has just so many bytes, if these are right, with redeemers more.
func padded(t api.Tx, n int) api.Tx {
	b, _ := tx.Put(t)
	left := n - len(b)
	parts := (left + 14999) / 15000
	for i := range parts {
		t.Redeemers = append(t.Redeemers, redeemer(api.PurposeMint, i, bytesOf((left*(i+1)/parts-left*i/parts)-19)))
	}
	return t
}

// bytesOf is a list of bytes that has just so many bytes, as they are packed.
func bytesOf(n int) api.Term {
	n -= 3
	parts := (n + 202) / 203
	l := listed{}
	for i := range parts {
		l = append(l, strings.Repeat("y", n*(i+1)/parts-n*i/parts-3))
	}
	return termOf(l)
}

package tx

import (
	"math/rand"
	"slices"

	"moidore/api"
	"moidore/term"
)

// anyOf is at most so many things of a sort; often few, at times as many as may be.
func anyOf[T any](r *rand.Rand, most int, one func(*rand.Rand) T) []T {
	var l []T
	for range []int{0, r.Intn(min(3, most) + 1), r.Intn(min(3, most) + 1), r.Intn(most + 1), most}[min(r.Intn(60), 4)] {
		l = append(l, one(r))
	}
	return l
}

// few is anyOf that is not often long.
func few[T any](r *rand.Rand, most int, one func(*rand.Rand) T) []T {
	if r.Intn(10) > 0 {
		most = min(most, 3)
	}
	return anyOf(r, most, one)
}

// anyNumber is some number of 0 or more, and at most most; its ends come often.
func anyNumber(r *rand.Rand, most int64) int64 {
	switch r.Intn(4) {
	case 0:
		return 0
	case 1:
		return most
	case 2:
		return min(most, int64(r.Intn(300)))
	}
	return int64(r.Uint64()>>1>>r.Intn(63)) % most
}

// anyHash is some hash; few are many times there, and some differ in one byte.
func anyHash(r *rand.Rand) api.Hash {
	if r.Intn(4) == 0 {
		var x api.Hash
		r.Read(x[:])
		return x
	}
	return h(byte(r.Intn(5)), byte(r.Intn(5)))
}

func anyText(r *rand.Rand, most int) string {
	b := make([]byte, []int{0, r.Intn(4), r.Intn(most + 1), most}[r.Intn(4)])
	r.Read(b)
	return string(b)
}

// anyTerm is some right term.
func anyTerm(r *rand.Rand) api.Term {
	for {
		if t := anyTree(r, 1+r.Intn(4)); term.Right(t) {
			return t
		}
	}
}

// anyTree is some term of some kind, at most so deep; most of them are right.
func anyTree(r *rand.Rand, deep int) api.Term {
	kind := r.Intn(6)
	if deep == 1 {
		kind = r.Intn(3)
	}
	var kids []api.Term
	for range r.Intn(4) {
		if kind > 2 {
			kids = append(kids, anyTree(r, deep-1))
		}
	}
	switch kind {
	case 0:
		return num(anyNumber(r, most) - anyNumber(r, most))
	case 1:
		return text(anyText(r, 20))
	case 2:
		return realOf([]uint64{0, 1 << 63, 0x7FF0000000000000, api.NaN, 1, r.Uint64()}[r.Intn(6)])
	case 3:
		return list(kids...)
	case 4:
		return tag(int64(r.Int31()), kids...)
	}
	slices.SortFunc(kids, term.Order)
	var l []api.Term
	for _, k := range slices.CompactFunc(kids, term.Same) {
		l = append(l, k, anyTree(r, 1))
	}
	return pairs(l...)
}

// anyAssets is some assets that rise, with Amounts of 1 or more.
func anyAssets(r *rand.Rand) []api.Asset {
	l := few(r, 30, func(r *rand.Rand) api.Asset {
		return api.Asset{Policy: anyHash(r), Name: anyText(r, 32), Amount: max(1, anyNumber(r, most))}
	})
	name := func(a api.Asset) string { return string(a.Policy[:]) + a.Name }
	slices.SortFunc(l, func(a, b api.Asset) int { return slices.Compare([]byte(name(a)), []byte(name(b))) })
	return slices.CompactFunc(l, func(a, b api.Asset) bool { return name(a) == name(b) })
}

func anyMint(r *rand.Rand) []api.Asset {
	l := anyAssets(r)
	for i := range l {
		if r.Intn(2) == 0 {
			l[i].Amount = -l[i].Amount
		}
	}
	return l
}

func anyOutput(r *rand.Rand) api.Output {
	o := api.Output{Address: api.Address{Program: r.Intn(2) == 0, Hash: anyHash(r)}, Value: val(anyNumber(r, most), anyAssets(r)...), Datum: api.DatumKind(r.Intn(3))}
	switch o.Datum {
	case api.DatumHash:
		o.Hash = anyHash(r)
	case api.DatumInline:
		o.Term = anyTerm(r)
	}
	return o
}

func anyRef(r *rand.Rand) api.Ref { return api.Ref{Tx: anyHash(r), Place: r.Intn(31)} }

func anyInstr(r *rand.Rand) api.Instr {
	switch k := api.OpKind(1 + r.Intn(50)); k {
	case api.OpPushInt:
		return api.Instr{Op: k, Num: -anyNumber(r, most)}
	case api.OpPushReal:
		return api.Instr{Op: k, Bits: []uint64{0, 1, api.NaN}[r.Intn(3)]}
	case api.OpPushTerm:
		return api.Instr{Op: k, Term: anyTerm(r)}
	case api.OpTake, api.OpDrop, api.OpMakeList:
		return api.Instr{Op: k, Num: anyNumber(r, 39)}
	case api.OpJump, api.OpUnless:
		return api.Instr{Op: k, Num: anyNumber(r, 299)}
	case api.OpMakeTag:
		return api.Instr{Op: k, Num: anyNumber(r, 40), Bits: uint64(anyNumber(r, 1<<31-1))}
	default:
		return api.Instr{Op: k}
	}
}

func anyProgram(r *rand.Rand) api.Program {
	return prog(r.Intn(4), append(few(r, 299, anyInstr), anyInstr(r))...)
}

func anyRedeemer(r *rand.Rand) api.Redeemer {
	return redeemer(api.PurposeKind(1+r.Intn(2)), int(anyNumber(r, 65535)), anyTerm(r), anyNumber(r, 1<<20), anyNumber(r, 1<<20))
}

func anySignature(r *rand.Rand) api.Signature {
	var s api.Signature
	for range 35 {
		s.Chains = append(s.Chains, anyHash(r))
	}
	return s
}

func anyBody(r *rand.Rand) api.Body {
	return api.Body{
		Inputs: few(r, 30, anyRef), Collateral: few(r, 30, anyRef), Return: anyOf(r, 1, anyOutput), Outputs: few(r, 30, anyOutput),
		Fee: anyNumber(r, most), From: anyNumber(r, 1<<40), To: anyNumber(r, 1<<40+1) - 1, Mint: anyMint(r), Data: anyHash(r),
	}
}

// anyTx is some right transaction.
func anyTx(r *rand.Rand) api.Tx {
	return api.Tx{
		Body: anyBody(r), Signatures: few(r, 60, anySignature),
		Programs: few(r, 10, anyProgram), Terms: few(r, 10, anyTerm), Redeemers: few(r, 60, anyRedeemer), Valid: r.Intn(2) == 0,
	}
}

// spoilt is bytes one of which is another one, goes, or is new; or some of which stand there twice.
func spoilt(r *rand.Rand, b []byte) []byte {
	i := r.Intn(len(b) + 1)
	switch k := min(len(b), i+r.Intn(40)); r.Intn(4) {
	case 0:
		return slices.Concat(b[:i], b[min(i+1, len(b)):])
	case 1:
		return slices.Concat(b[:i], []byte{byte(r.Intn(256))}, b[i:])
	case 2:
		return slices.Concat(b[:k], b[i:])
	default:
		c := slices.Clone(b)
		if i < len(b) {
			c[i] = byte(r.Intn(256))
		}
		return c
	}
}

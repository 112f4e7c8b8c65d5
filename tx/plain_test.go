package tx

import (
	"slices"

	"moidore/api"
	"moidore/code"
	"moidore/pack"
	"moidore/term"
	"moidore/value"
)

// What is right, by the chapter's words.

func all[T any](l []T, is func(T) bool) bool {
	return !slices.ContainsFunc(l, func(x T) bool { return !is(x) })
}

func isBody(b api.Body) bool {
	few := len(b.Inputs) <= 30 && len(b.Collateral) <= 30 && len(b.Return) <= 1 && len(b.Outputs) <= 30
	place := func(x api.Ref) bool { return 0 <= x.Place && x.Place <= 30 }
	return few && all(b.Inputs, place) && all(b.Collateral, place) && all(b.Return, pack.RightOutput) && all(b.Outputs, pack.RightOutput) &&
		b.Fee >= 0 && 0 <= b.From && b.From <= 1099511627776 && -1 <= b.To && b.To <= 1099511627776 && value.Mints(b.Mint)
}

func isRedeemer(x api.Redeemer) bool {
	steps, memory := x.Budget.Steps, x.Budget.Memory
	return (x.Purpose == 1 || x.Purpose == 2) && 0 <= x.Place && x.Place <= 65535 && term.Right(x.Term) &&
		0 <= steps && steps <= 1048576 && 0 <= memory && memory <= 1048576
}

func areSignatures(l []api.Signature) bool {
	return len(l) <= 60 && all(l, func(s api.Signature) bool { return len(s.Chains) == 35 })
}

func isData(t api.Tx) bool {
	return len(t.Programs) <= 10 && all(t.Programs, code.Right) && len(t.Terms) <= 10 && all(t.Terms, term.Right) &&
		len(t.Redeemers) <= 60 && all(t.Redeemers, isRedeemer)
}

func isTx(t api.Tx) bool {
	return isBody(t.Body) && areSignatures(t.Signatures) && isData(t) && len(txBytes(t)) <= 262144
}

// The bytes of things, line by line of the chapter's table, right or not.

// be is a number's bytes, the highest first.
func be(n uint64, size int) []byte {
	b := make([]byte, size)
	for i := range b {
		b[i] = byte(n >> (8 * (size - 1 - i)))
	}
	return b
}

func u8(n int) []byte    { return be(uint64(n), 1) }
func u16(n int) []byte   { return be(uint64(n), 2) }
func u32(n int) []byte   { return be(uint64(n), 4) }
func i64(n int64) []byte { return be(uint64(n), 8) }

func flag(is bool) []byte {
	if is {
		return []byte{1}
	}
	return []byte{0}
}

func textBytes(s string) []byte { return append(u16(len(s)), s...) }

func termBytes(t api.Term) []byte {
	var b []byte
	for _, n := range t.Nodes {
		b = append(b, byte(n.Kind))
		switch n.Kind {
		case api.TermInt:
			b = append(b, i64(n.Int)...)
		case api.TermBytes:
			b = append(b, textBytes(n.Bytes)...)
		case api.TermReal:
			b = append(b, be(n.Bits, 8)...)
		case api.TermTag:
			b = append(append(b, u32(int(n.Int))...), u16(n.Kids)...)
		default:
			b = append(b, u16(n.Kids)...)
		}
	}
	return b
}

// rowBytes is how many things there are, and each one's bytes.
func rowBytes[T any](l []T, each func(T) []byte) []byte {
	b := u16(len(l))
	for _, x := range l {
		b = append(b, each(x)...)
	}
	return b
}

func refBytes(x api.Ref) []byte { return append(x.Tx[:], u16(x.Place)...) }

func assetBytes(a api.Asset) []byte {
	return slices.Concat(a.Policy[:], textBytes(a.Name), i64(a.Amount))
}

func outputBytes(o api.Output) []byte {
	b := slices.Concat(flag(o.Address.Program), o.Address.Hash[:], i64(o.Value.Coin), rowBytes(o.Value.Assets, assetBytes), u8(int(o.Datum)))
	switch o.Datum {
	case api.DatumHash:
		b = append(b, o.Hash[:]...)
	case api.DatumInline:
		b = append(b, termBytes(o.Term)...)
	}
	return b
}

func bodyBytes(b api.Body) []byte {
	return slices.Concat(rowBytes(b.Inputs, refBytes), rowBytes(b.Collateral, refBytes), rowBytes(b.Return, outputBytes), rowBytes(b.Outputs, outputBytes),
		i64(b.Fee), i64(b.From), i64(b.To), rowBytes(b.Mint, assetBytes), b.Data[:])
}

func instrBytes(i api.Instr) []byte {
	b := u8(int(i.Op))
	switch n := int(i.Num); i.Op {
	case api.OpPushInt:
		return append(b, i64(i.Num)...)
	case api.OpPushReal:
		return append(b, be(i.Bits, 8)...)
	case api.OpPushTerm:
		return append(b, termBytes(i.Term)...)
	case api.OpTake, api.OpDrop, api.OpMakeList:
		return append(b, u8(n)...)
	case api.OpJump, api.OpUnless:
		return append(b, u16(n)...)
	case api.OpMakeTag:
		return slices.Concat(b, u8(n), be(i.Bits, 4))
	}
	return b
}

func programBytes(p api.Program) []byte {
	return append(u8(p.Args), rowBytes(p.Instrs, instrBytes)...)
}

func redeemerBytes(x api.Redeemer) []byte {
	return slices.Concat(u8(int(x.Purpose)), u16(x.Place), termBytes(x.Term), i64(x.Budget.Steps), i64(x.Budget.Memory))
}

func signatureBytes(s api.Signature) []byte {
	var b []byte
	for _, x := range s.Chains {
		b = append(b, x[:]...)
	}
	return b
}

func dataBytes(t api.Tx) []byte {
	return slices.Concat(rowBytes(t.Programs, programBytes), rowBytes(t.Terms, termBytes), rowBytes(t.Redeemers, redeemerBytes))
}

func txBytes(t api.Tx) []byte {
	return slices.Concat(bodyBytes(t.Body), rowBytes(t.Signatures, signatureBytes), dataBytes(t), flag(t.Valid))
}

// plain is bytes that are read as the tables have them, without asking whether what they say is right; bad, when they say nothing.
type plain struct {
	b   []byte
	bad bool
}

func (p *plain) raw(n int) []byte {
	if p.bad || n > len(p.b) {
		p.bad = true
		return make([]byte, min(n, 32))
	}
	b := p.b[:n]
	p.b = p.b[n:]
	return b
}

func (p *plain) num(size int) uint64 {
	n := uint64(0)
	for _, b := range p.raw(size) {
		n = n*256 + uint64(b)
	}
	return n
}

func (p *plain) i64() int64     { return int64(p.num(8)) }
func (p *plain) hash() api.Hash { return api.Hash(p.raw(32)) }
func (p *plain) text() string   { return string(p.raw(int(p.num(2)))) }

func (p *plain) flag() bool {
	n := p.num(1)
	p.bad = p.bad || n > 1
	return n == 1
}

// rowOf is n things, or fewer, if they are not there.
func rowOf[T any](p *plain, n uint64, next func(*plain) T) []T {
	var l []T
	for range n {
		if p.bad {
			break
		}
		l = append(l, next(p))
	}
	return l
}

func (p *plain) term() api.Term {
	if p.bad {
		return api.Term{}
	}
	n, kids := api.Node{Kind: api.TermKind(p.num(1))}, uint64(0)
	switch n.Kind {
	case api.TermInt:
		n.Int = p.i64()
	case api.TermBytes:
		n.Bytes = p.text()
	case api.TermReal:
		n.Bits = p.num(8)
	case api.TermList, api.TermMap:
		kids = p.num(2)
	case api.TermTag:
		n.Int = int64(p.num(4))
		kids = p.num(2)
	default:
		p.bad = true
	}
	return over(n, rowOf(p, kids, (*plain).term)...)
}

func (p *plain) asset() api.Asset {
	a := api.Asset{Policy: p.hash()}
	a.Name = p.text()
	a.Amount = p.i64()
	return a
}

func (p *plain) output() api.Output {
	var o api.Output
	o.Address.Program = p.flag()
	o.Address.Hash = p.hash()
	o.Value.Coin = p.i64()
	o.Value.Assets = rowOf(p, p.num(2), (*plain).asset)
	o.Datum = api.DatumKind(p.num(1))
	switch o.Datum {
	case api.DatumHash:
		o.Hash = p.hash()
	case api.DatumInline:
		o.Term = p.term()
	}
	return o
}

func (p *plain) ref() api.Ref {
	x := api.Ref{Tx: p.hash()}
	x.Place = int(p.num(2))
	return x
}

func (p *plain) instr() api.Instr {
	i := api.Instr{Op: api.OpKind(p.num(1))}
	switch i.Op {
	case api.OpPushInt:
		i.Num = p.i64()
	case api.OpPushReal:
		i.Bits = p.num(8)
	case api.OpPushTerm:
		i.Term = p.term()
	case api.OpTake, api.OpDrop, api.OpMakeList:
		i.Num = int64(p.num(1))
	case api.OpJump, api.OpUnless:
		i.Num = int64(p.num(2))
	case api.OpMakeTag:
		i.Num = int64(p.num(1))
		i.Bits = p.num(4)
	}
	return i
}

func (p *plain) program() api.Program {
	x := api.Program{Args: int(p.num(1))}
	x.Instrs = rowOf(p, p.num(2), (*plain).instr)
	return x
}

func (p *plain) signature() api.Signature {
	return api.Signature{Chains: rowOf(p, 35, (*plain).hash)}
}

func (p *plain) redeemer() api.Redeemer {
	x := api.Redeemer{Purpose: api.PurposeKind(p.num(1))}
	x.Place = int(p.num(2))
	x.Term = p.term()
	x.Budget.Steps = p.i64()
	x.Budget.Memory = p.i64()
	return x
}

func (p *plain) tx() api.Tx {
	var t api.Tx
	t.Body.Inputs = rowOf(p, p.num(2), (*plain).ref)
	t.Body.Collateral = rowOf(p, p.num(2), (*plain).ref)
	t.Body.Return = rowOf(p, p.num(2), (*plain).output)
	t.Body.Outputs = rowOf(p, p.num(2), (*plain).output)
	t.Body.Fee = p.i64()
	t.Body.From = p.i64()
	t.Body.To = p.i64()
	t.Body.Mint = rowOf(p, p.num(2), (*plain).asset)
	t.Body.Data = p.hash()
	t.Signatures = rowOf(p, p.num(2), (*plain).signature)
	t.Programs = rowOf(p, p.num(2), (*plain).program)
	t.Terms = rowOf(p, p.num(2), (*plain).term)
	t.Redeemers = rowOf(p, p.num(2), (*plain).redeemer)
	t.Valid = p.flag()
	return t
}

package pack

import (
	"slices"

	"moidore/api"
	"moidore/term"
	"moidore/value"
)

// be is a number's bytes, the highest first.
func be(n uint64, size int) []byte {
	b := make([]byte, size)
	for i := range b {
		b[i] = byte(n >> (8 * (size - 1 - i)))
	}
	return b
}

func u8(n int) []byte  { return be(uint64(n), 1) }
func u16(n int) []byte { return be(uint64(n), 2) }
func u32(n int) []byte { return be(uint64(n), 4) }

func textBytes(s string) []byte { return slices.Concat(u16(len(s)), []byte(s)) }

// The bytes of things, line by line of the chapter's table.

func termBytes(t api.Term) []byte {
	var b []byte
	for _, n := range t.Nodes {
		b = append(b, u8(int(n.Kind))...)
		switch n.Kind {
		case api.TermInt:
			b = append(b, be(uint64(n.Int), 8)...)
		case api.TermBytes:
			b = append(b, textBytes(n.Bytes)...)
		case api.TermReal:
			b = append(b, be(n.Bits, 8)...)
		case api.TermList, api.TermMap:
			b = append(b, u16(n.Kids)...)
		case api.TermTag:
			b = append(b, slices.Concat(u32(int(n.Int)), u16(n.Kids))...)
		}
	}
	return b
}

func assetsBytes(l []api.Asset) []byte {
	b := u16(len(l))
	for _, a := range l {
		b = append(b, slices.Concat(a.Policy[:], textBytes(a.Name), be(uint64(a.Amount), 8))...)
	}
	return b
}

func valueBytes(v api.Value) []byte {
	return slices.Concat(be(uint64(v.Coin), 8), assetsBytes(v.Assets))
}

func totalsBytes(l []api.Total) []byte {
	b := u32(len(l))
	for _, t := range l {
		b = append(b, slices.Concat(t.Policy[:], textBytes(t.Name), be(uint64(t.Sum.Hi), 8), be(t.Sum.Lo, 8))...)
	}
	return b
}

func addressBytes(a api.Address) []byte {
	flag := 0
	if a.Program {
		flag = 1
	}
	return slices.Concat(u8(flag), a.Hash[:])
}

func outputBytes(o api.Output) []byte {
	b := slices.Concat(addressBytes(o.Address), valueBytes(o.Value), u8(int(o.Datum)))
	switch o.Datum {
	case api.DatumHash:
		b = append(b, o.Hash[:]...)
	case api.DatumInline:
		b = append(b, termBytes(o.Term)...)
	}
	return b
}

func refBytes(x api.Ref) []byte { return slices.Concat(x.Tx[:], u16(x.Place)) }

func entriesBytes(l []api.Entry) []byte {
	b := u32(len(l))
	for _, e := range l {
		b = append(b, slices.Concat(refBytes(e.Ref), outputBytes(e.Output))...)
	}
	return b
}

func diffBytes(d api.Diff) []byte {
	return slices.Concat(entriesBytes(d.Spent), entriesBytes(d.Made), be(uint64(d.Fees), 8), be(uint64(d.Forfeits), 8), totalsBytes(d.Mint))
}

// plain is bytes that are read as the table has them, without asking whether what they say is right; bad, when they say nothing.
type plain struct {
	b   []byte
	bad bool
}

func (p *plain) raw(n int) []byte {
	if p.bad || n > len(p.b) {
		p.bad = true
		return make([]byte, min(n, 32))
	}
	b := p.b[:n]
	p.b = p.b[n:]
	return b
}

func (p *plain) num(size int) uint64 {
	n := uint64(0)
	for _, b := range p.raw(size) {
		n = n*256 + uint64(b)
	}
	return n
}

func (p *plain) count(size int) int { return int(p.num(size)) }
func (p *plain) hash() api.Hash     { return api.Hash(p.raw(32)) }
func (p *plain) text() string       { return string(p.raw(p.count(2))) }

func (p *plain) flag() bool {
	n := p.num(1)
	p.bad = p.bad || n > 1
	return n == 1
}

func (p *plain) term() api.Term {
	if p.bad {
		return api.Term{}
	}
	n, kids := api.Node{Kind: api.TermKind(p.num(1))}, 0
	switch n.Kind {
	case api.TermInt:
		n.Int = int64(p.num(8))
	case api.TermBytes:
		n.Bytes = p.text()
	case api.TermReal:
		n.Bits = p.num(8)
	case api.TermList, api.TermMap:
		kids = p.count(2)
	case api.TermTag:
		n.Int = int64(p.num(4))
		kids = p.count(2)
	default:
		p.bad = true
	}
	return over(n, rowOf(p, kids, (*plain).term)...)
}

// rowOf is n things, or fewer, if they are not there.
func rowOf[T any](p *plain, n int, next func(*plain) T) []T {
	var l []T
	for range n {
		if p.bad {
			break
		}
		l = append(l, next(p))
	}
	return l
}

func (p *plain) asset() api.Asset {
	a := api.Asset{Policy: p.hash()}
	a.Name = p.text()
	a.Amount = int64(p.num(8))
	return a
}

func (p *plain) assets() []api.Asset { return rowOf(p, p.count(2), (*plain).asset) }

func (p *plain) value() api.Value {
	v := api.Value{Coin: int64(p.num(8))}
	v.Assets = p.assets()
	return v
}

func (p *plain) total() api.Total {
	t := api.Total{Policy: p.hash()}
	t.Name = p.text()
	t.Sum.Hi = int64(p.num(8))
	t.Sum.Lo = p.num(8)
	return t
}

func (p *plain) totals() []api.Total { return rowOf(p, p.count(4), (*plain).total) }

func (p *plain) output() api.Output {
	var o api.Output
	o.Address.Program = p.flag()
	o.Address.Hash = p.hash()
	o.Value = p.value()
	o.Datum = api.DatumKind(p.num(1))
	switch o.Datum {
	case api.DatumHash:
		o.Hash = p.hash()
	case api.DatumInline:
		o.Term = p.term()
	}
	return o
}

func (p *plain) ref() api.Ref {
	x := api.Ref{Tx: p.hash()}
	x.Place = p.count(2)
	return x
}

func (p *plain) entry() api.Entry {
	e := api.Entry{Ref: p.ref()}
	e.Output = p.output()
	return e
}

func (p *plain) entries() []api.Entry { return rowOf(p, p.count(4), (*plain).entry) }

func (p *plain) diff() api.Diff {
	d := api.Diff{Spent: p.entries()}
	d.Made = p.entries()
	d.Fees = int64(p.num(8))
	d.Forfeits = int64(p.num(8))
	d.Mint = p.totals()
	return d
}

// What is right, by the chapter's words.

func isRef(x api.Ref) bool { return 0 <= x.Place && x.Place <= 30 }

func isOutput(o api.Output) bool {
	if !value.Right(o.Value) {
		return false
	}
	hash, nodes := o.Hash != api.Hash{}, len(o.Term.Nodes) > 0
	switch o.Datum {
	case api.DatumNone:
		return !hash && !nodes
	case api.DatumHash:
		return !nodes
	case api.DatumInline:
		return !hash && term.Right(o.Term)
	}
	return false
}

// stands says whether one ref stands ahead of another one, byte by byte.
func stands(a, b api.Ref) bool {
	for i := range a.Tx {
		if a.Tx[i] != b.Tx[i] {
			return a.Tx[i] < b.Tx[i]
		}
	}
	return a.Place < b.Place
}

func areEntries(l []api.Entry) bool {
	for i, e := range l {
		if !isRef(e.Ref) || !isOutput(e.Output) || i > 0 && !stands(l[i-1].Ref, e.Ref) {
			return false
		}
	}
	return true
}

func isDiff(d api.Diff) bool {
	if !areEntries(d.Spent) || !areEntries(d.Made) || d.Fees < 0 || d.Forfeits < 0 || !value.Totals(d.Mint) {
		return false
	}
	for _, s := range d.Spent {
		for _, m := range d.Made {
			if s.Ref == m.Ref {
				return false
			}
		}
	}
	return true
}

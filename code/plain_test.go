package code

import (
	"math"
	"slices"

	"moidore/api"
	"moidore/pack"
	"moidore/term"
	"moidore/wire"
)

// What is right, by the chapter's words.

func isProgram(p api.Program) bool {
	if p.Args < 0 || p.Args > 3 || len(p.Instrs) < 1 || len(p.Instrs) > 300 {
		return false
	}
	for _, i := range p.Instrs {
		if !isInstr(i) {
			return false
		}
	}
	return true
}

func isInstr(i api.Instr) bool {
	noNum, noBits, noTerm := i.Num == 0, i.Bits == 0, len(i.Term.Nodes) == 0
	switch i.Op {
	case api.OpPushInt:
		return noBits && noTerm
	case api.OpPushReal:
		return noNum && noTerm && isReal(i.Bits)
	case api.OpPushTerm:
		return noNum && noBits && term.Right(i.Term)
	case api.OpTake, api.OpDrop:
		return noBits && noTerm && 0 <= i.Num && i.Num < 40
	case api.OpJump, api.OpUnless:
		return noBits && noTerm && 0 <= i.Num && i.Num < 300
	case api.OpMakeList:
		return noBits && noTerm && 0 <= i.Num && i.Num <= 40
	case api.OpMakeTag:
		return noTerm && 0 <= i.Num && i.Num <= 40 && i.Bits <= 2147483647
	}
	return 1 <= i.Op && i.Op <= 50 && noNum && noBits && noTerm
}

func isReal(a uint64) bool { return !math.IsNaN(math.Float64frombits(a)) || a == 0x7FF8000000000000 }

// The bytes of programs, line by line of the chapter's table, right or not.

// be is a number's bytes, the highest first.
func be(n uint64, size int) []byte {
	b := make([]byte, size)
	for i := range b {
		b[i] = byte(n >> (8 * (size - 1 - i)))
	}
	return b
}

func plainBytes(p api.Program) []byte {
	b := slices.Concat(be(uint64(p.Args), 1), be(uint64(len(p.Instrs)), 2))
	for _, i := range p.Instrs {
		b = append(b, instrBytes(i)...)
	}
	return b
}

func instrBytes(i api.Instr) []byte {
	b := be(uint64(i.Op), 1)
	switch n := uint64(i.Num); i.Op {
	case api.OpPushInt:
		return append(b, be(n, 8)...)
	case api.OpPushReal:
		return append(b, be(i.Bits, 8)...)
	case api.OpPushTerm:
		return append(b, termBytes(i.Term)...)
	case api.OpTake, api.OpDrop, api.OpMakeList:
		return append(b, be(n, 1)...)
	case api.OpJump, api.OpUnless:
		return append(b, be(n, 2)...)
	case api.OpMakeTag:
		return slices.Concat(b, be(n, 1), be(i.Bits, 4))
	}
	return b
}

// termBytes is a term's bytes, as chapter 7 has them.
func termBytes(t api.Term) []byte {
	var b []byte
	for _, n := range t.Nodes {
		b = append(b, byte(n.Kind))
		switch n.Kind {
		case api.TermInt:
			b = append(b, be(uint64(n.Int), 8)...)
		case api.TermBytes:
			b = append(append(b, be(uint64(len(n.Bytes)), 2)...), n.Bytes...)
		case api.TermReal:
			b = append(b, be(n.Bits, 8)...)
		case api.TermTag:
			b = append(append(b, be(uint64(n.Int), 4)...), be(uint64(n.Kids), 2)...)
		default:
			b = append(b, be(uint64(n.Kids), 2)...)
		}
	}
	return b
}

// plain is bytes that are read as the table has them, without asking whether what they say is right, but for terms; bad, when they say nothing.
type plain struct {
	b   []byte
	bad bool
}

func (p *plain) num(size int) uint64 {
	if p.bad || size > len(p.b) {
		p.bad = true
		return 0
	}
	n := uint64(0)
	for _, b := range p.b[:size] {
		n = n*256 + uint64(b)
	}
	p.b = p.b[size:]
	return n
}

func (p *plain) term() api.Term {
	r := wire.NewReader(p.b)
	t := pack.GetTerm(r)
	if r.Err() != api.OK {
		p.bad = true
		return api.Term{}
	}
	p.b = p.b[len(p.b)-r.Left():]
	return t
}

func (p *plain) instr() api.Instr {
	i := op(api.OpKind(p.num(1)))
	switch i.Op {
	case api.OpPushInt:
		i.Num = int64(p.num(8))
	case api.OpPushReal:
		i.Bits = p.num(8)
	case api.OpPushTerm:
		i.Term = p.term()
	case api.OpTake, api.OpDrop, api.OpMakeList:
		i.Num = int64(p.num(1))
	case api.OpJump, api.OpUnless:
		i.Num = int64(p.num(2))
	case api.OpMakeTag:
		i.Num = int64(p.num(1))
		i.Bits = p.num(4)
	}
	return i
}

func (p *plain) program() api.Program {
	x := api.Program{Args: int(p.num(1))}
	for range p.num(2) {
		x.Instrs = append(x.Instrs, p.instr())
		if p.bad {
			break
		}
	}
	return x
}

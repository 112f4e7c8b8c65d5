package code

import (
	"encoding/hex"
	"fmt"
	"reflect"
	"slices"
	"strings"
	"testing"

	"moidore/api"
	"moidore/sum"
	"moidore/wire"
)

const (
	least = -1 << 63
	most  = 1<<63 - 1
)

// Bits of reals.
const (
	minusNought = 1 << 63
	infinity    = 0x7FF0000000000000
	minusNaN    = 0xFFF8000000000000
	otherNaN    = 0x7FF0000000000001
)

// over is a node ahead of kids.
func over(n api.Node, kids ...api.Term) api.Term {
	n.Kids = len(kids)
	l := []api.Node{n}
	for _, k := range kids {
		l = append(l, k.Nodes...)
	}
	return api.Term{Nodes: l}
}

func num(n int64) api.Term         { return over(api.Node{Kind: api.TermInt, Int: n}) }
func text(s string) api.Term       { return over(api.Node{Kind: api.TermBytes, Bytes: s}) }
func realOf(a uint64) api.Term     { return over(api.Node{Kind: api.TermReal, Bits: a}) }
func list(k ...api.Term) api.Term  { return over(api.Node{Kind: api.TermList}, k...) }
func pairs(k ...api.Term) api.Term { return over(api.Node{Kind: api.TermMap}, k...) }
func tag(n int64, k ...api.Term) api.Term {
	return over(api.Node{Kind: api.TermTag, Int: n}, k...)
}
func nodes(l ...api.Node) api.Term { return api.Term{Nodes: l} }

// nums is so many terms, ints that rise.
func nums(n int) []api.Term {
	l := make([]api.Term, n)
	for i := range l {
		l[i] = num(int64(i))
	}
	return l
}

// nested is a term that is so deep, of lists of one.
func nested(deep int) api.Term {
	t := num(7)
	for range deep - 1 {
		t = list(t)
	}
	return t
}

func op(kind api.OpKind) api.Instr               { return api.Instr{Op: kind} }
func opNum(kind api.OpKind, n int64) api.Instr   { return api.Instr{Op: kind, Num: n} }
func opBits(kind api.OpKind, b uint64) api.Instr { return api.Instr{Op: kind, Bits: b} }
func opTerm(kind api.OpKind, t api.Term) api.Instr {
	return api.Instr{Op: kind, Term: t}
}
func makeTag(n int64, b uint64) api.Instr {
	return api.Instr{Op: api.OpMakeTag, Num: n, Bits: b}
}

func prog(args int, l ...api.Instr) api.Program { return api.Program{Args: args, Instrs: l} }

// times is an instruction so many times.
func times(n int, i api.Instr) []api.Instr { return slices.Repeat([]api.Instr{i}, n) }

// told is a thing as it is told of: lists without elements are one with nil ones (R6).
func told(x any) string { return strings.ReplaceAll(fmt.Sprintf("%#v", x), "(nil)", "{}") }

// same says whether two programs are.
func same(p, q api.Program) bool {
	return p.Args == q.Args && slices.EqualFunc(p.Instrs, q.Instrs, func(a, b api.Instr) bool {
		return a.Op == b.Op && a.Num == b.Num && a.Bits == b.Bits && slices.Equal(a.Term.Nodes, b.Term.Nodes)
	})
}

// bare says whether a program is one without anything.
func bare(p api.Program) bool { return same(p, api.Program{}) }

// short is a text that is not too long to be shown.
func short(s string) string {
	if len(s) > 400 {
		return s[:400] + ".."
	}
	return s
}

// bytesPut is what a call puts to a new writer.
func bytesPut(put func(w *wire.Writer)) ([]byte, api.Errno) {
	w := wire.NewWriter()
	put(w)
	return w.Bytes()
}

// bytesOf is what is put of a program.
func bytesOf(p api.Program) ([]byte, api.Errno) {
	return bytesPut(func(w *wire.Writer) { Put(w, p) })
}

// copied is a program in memory of its own; each of its lists has room for so many more elements behind it.
func copied(p api.Program, room int) api.Program {
	p.Instrs = roomy(p.Instrs, room)
	for i := range p.Instrs {
		p.Instrs[i].Term.Nodes = roomy(p.Instrs[i].Term.Nodes, room)
	}
	return p
}

func roomy[T any](l []T, room int) []T {
	c := make([]T, len(l)+room)
	copy(c, l)
	return c[:len(l)]
}

// kept is a program as it stands in memory, with what stands in the room behind its lists.
type kept struct {
	args, long int
	instrs     []api.Instr
	nodes      [][]api.Node
}

func keep(p api.Program) kept {
	l := p.Instrs[:cap(p.Instrs)]
	k := kept{p.Args, len(p.Instrs), slices.Clone(l), nil}
	for _, i := range l {
		n := i.Term.Nodes
		k.nodes = append(k.nodes, slices.Clone(n[:cap(n)]))
	}
	return k
}

// still says whether a program stands in memory as it did.
func (k kept) still(p api.Program) bool { return reflect.DeepEqual(k, keep(p)) }

// turn makes noughts of all elements of all lists of a program, as far as their memory goes.
func turn(p api.Program) {
	l := p.Instrs[:cap(p.Instrs)]
	for _, i := range l {
		clear(i.Term.Nodes[:cap(i.Term.Nodes)])
	}
	clear(l)
}

// span is the memory of a list.
type span struct{ from, to uintptr }

func spanOf[T any](l []T) []span {
	if cap(l) == 0 {
		return nil
	}
	at := reflect.ValueOf(l).Pointer()
	return []span{{at, at + uintptr(cap(l))*reflect.TypeFor[T]().Size()}}
}

// spans is the memory of all lists of a program.
func spans(p api.Program) []span {
	l := spanOf(p.Instrs)
	for _, i := range p.Instrs {
		l = append(l, spanOf(i.Term.Nodes)...)
	}
	return l
}

// unhex is bytes that are written in hexadecimal; blanks part them.
func unhex(s string) []byte {
	b, err := hex.DecodeString(strings.ReplaceAll(s, " ", ""))
	if err != nil {
		panic(err)
	}
	return b
}

// The chapter's example.
func TestExample(t *testing.T) {
	p := prog(0, opNum(api.OpPushInt, 1), op(api.OpFail))
	want := unhex("00 00 02 01 00 00 00 00 00 00 00 01 31")
	b, e := bytesOf(p)
	if string(b) != string(want) || e != api.OK || !Right(p) {
		t.Errorf("%x, %d", b, e)
	}
	r := wire.NewReader(want)
	if got := Get(r); !same(got, p) || !r.End() {
		t.Error(told(got))
	}
	if h, is := Hash(p); h != sum.Of(want) || !is {
		t.Errorf("%x, %t", h, is)
	}
}

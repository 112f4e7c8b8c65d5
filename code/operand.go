package code

import (
	"math"

	"moidore/api"
	"moidore/float"
	"moidore/pack"
	"moidore/term"
	"moidore/wire"
)

// operand is a thing that an instruction has behind its Op.
type operand struct {
	take func(*api.Instr) // out of the instruction; it is thrown, if it may not be
	put  func(*wire.Writer, *api.Instr)
	get  func(*wire.Reader, *api.Instr)
}

// table is what Ops have, in the order of its bytes. An Op that does not stand there has nothing.
type table map[api.OpKind][]operand

func operands() table {
	num := func(i *api.Instr) *int64 { return &i.Num }
	bits := func(i *api.Instr) *uint64 { return &i.Bits }
	data := func(i *api.Instr) *api.Term { return &i.Term }
	onStack := upTo(num, api.MaxStack-1, (*wire.Writer).U8, (*wire.Reader).U8)
	place := upTo(num, api.MaxInstrs-1, (*wire.Writer).U16, (*wire.Reader).U16)
	kids := upTo(num, api.MaxStack, (*wire.Writer).U8, (*wire.Reader).U8)
	tag := upTo(bits, math.MaxInt32, (*wire.Writer).U32, (*wire.Reader).U32)
	return table{
		api.OpPushInt:  {one(num, anyInt, (*wire.Writer).I64, (*wire.Reader).I64)},
		api.OpPushReal: {one(bits, float.Right, (*wire.Writer).U64, (*wire.Reader).U64)},
		api.OpPushTerm: {one(data, term.Right, pack.PutTerm, pack.GetTerm)},
		api.OpTake:     {onStack},
		api.OpDrop:     {onStack},
		api.OpJump:     {place},
		api.OpUnless:   {place},
		api.OpMakeList: {kids},
		api.OpMakeTag:  {kids, tag},
	}
}

func anyInt(int64) bool { return true }

// one is what stands at a place in an instruction, if it may be so.
func one[T any](at func(*api.Instr) *T, may func(T) bool, put func(*wire.Writer, T), get func(*wire.Reader) T) operand {
	return operand{
		take: func(i *api.Instr) {
			var none T
			must(may(*at(i)))
			*at(i) = none
		},
		put: func(w *wire.Writer, i *api.Instr) { put(w, *at(i)) },
		get: func(r *wire.Reader, i *api.Instr) { *at(i) = get(r) },
	}
}

// upTo is a number from 0 to most.
func upTo[T int64 | uint64](at func(*api.Instr) *T, most T, put func(*wire.Writer, int), get func(*wire.Reader) int) operand {
	return one(at,
		func(n T) bool { return n >= 0 && n <= most },
		func(w *wire.Writer, n T) { put(w, int(n)) },
		func(r *wire.Reader) T { return T(get(r)) })
}

// mustFit throws an instruction that has not just what its Op says. What it has is taken out of a copy: nothing must be left.
func (t table) mustFit(l ...api.Instr) {
	for _, i := range l {
		must(i.Op >= api.OpPushInt, i.Op <= api.OpDone)
		for _, o := range t[i.Op] {
			o.take(&i)
		}
		must(i.Num == 0, i.Bits == 0, len(i.Term.Nodes) == 0)
	}
}

// put puts right instructions.
func (t table) put(w *wire.Writer, l ...api.Instr) {
	for _, i := range l {
		w.U8(int(i.Op))
		for _, o := range t[i.Op] {
			o.put(w, &i)
		}
	}
}

// get tells the n instructions that stand next, right or not. n may say more than there are: the first one that is not there ends it.
func (t table) get(r *wire.Reader, n int) []api.Instr {
	var l []api.Instr
	for range n {
		i := api.Instr{Op: api.OpKind(r.U8())}
		for _, o := range t[i.Op] {
			o.get(r, &i)
		}
		must(r.Err() == api.OK)
		l = append(l, i)
	}
	return l
}

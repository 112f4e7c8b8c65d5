package code

import (
	"math/rand"
	"slices"

	"moidore/api"
	"moidore/term"
)

// anyProgram is some right program.
func anyProgram(r *rand.Rand) api.Program {
	n := []int{1, 1 + r.Intn(3), 1 + r.Intn(20), 1 + r.Intn(300), 300}[min(r.Intn(40), 4)]
	if n > 3 && r.Intn(3) > 0 {
		n = 1 + r.Intn(8)
	}
	p := api.Program{Args: r.Intn(4)}
	for range n {
		p.Instrs = append(p.Instrs, anyInstr(r))
	}
	return p
}

// anyInstr is some right instruction; those that have something come often.
func anyInstr(r *rand.Rand) api.Instr {
	k := api.OpKind(1 + r.Intn(50))
	if r.Intn(2) == 0 {
		k = []api.OpKind{api.OpPushInt, api.OpPushReal, api.OpPushTerm, api.OpTake, api.OpDrop, api.OpJump, api.OpUnless, api.OpMakeList, api.OpMakeTag}[r.Intn(9)]
	}
	switch k {
	case api.OpPushInt:
		return opNum(k, anyNumber(r))
	case api.OpPushReal:
		return opBits(k, anyReal(r))
	case api.OpPushTerm:
		return opTerm(k, anyTerm(r))
	case api.OpTake, api.OpDrop:
		return opNum(k, int64(r.Intn(40)))
	case api.OpJump, api.OpUnless:
		return opNum(k, int64(r.Intn(300)))
	case api.OpMakeList:
		return opNum(k, int64(r.Intn(41)))
	case api.OpMakeTag:
		return makeTag(int64(r.Intn(41)), []uint64{0, 1, 1<<31 - 1, uint64(r.Int31())}[r.Intn(4)])
	}
	return op(k)
}

// anyNumber is some number; the ends of all of them come often.
func anyNumber(r *rand.Rand) int64 {
	ends := []int64{least, -1, 0, 1, 255, 256, 65536, most}
	if r.Intn(2) == 0 {
		return ends[r.Intn(len(ends))]
	}
	return int64(r.Uint64()) >> r.Intn(64)
}

func anyReal(r *rand.Rand) uint64 {
	for {
		a := []uint64{0, 1, minusNought, infinity, api.NaN, r.Uint64()}[r.Intn(6)]
		if isReal(a) {
			return a
		}
	}
}

// anyTerm is some right term.
func anyTerm(r *rand.Rand) api.Term {
	for {
		if t := anyTree(r, 1+r.Intn(4)); term.Right(t) {
			return t
		}
	}
}

// anyTree is some term of some kind, at most so deep; most of them are right.
func anyTree(r *rand.Rand, deep int) api.Term {
	kind := r.Intn(6)
	if deep == 1 {
		kind = r.Intn(3)
	}
	var kids []api.Term
	for range r.Intn(4) {
		if kind > 2 {
			kids = append(kids, anyTree(r, deep-1))
		}
	}
	switch kind {
	case 0:
		return num(anyNumber(r))
	case 1:
		b := make([]byte, r.Intn(12))
		r.Read(b)
		return text(string(b))
	case 2:
		return realOf(anyReal(r))
	case 3:
		return list(kids...)
	case 4:
		return tag(int64(r.Int31()), kids...)
	}
	slices.SortFunc(kids, term.Order)
	var l []api.Term
	for _, k := range slices.CompactFunc(kids, term.Same) {
		l = append(l, k, anyTree(r, 1))
	}
	return pairs(l...)
}

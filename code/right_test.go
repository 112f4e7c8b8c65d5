package code

import (
	"testing"

	"moidore/api"
)

// P8.1: right programs, and such as are not.
func TestRight(t *testing.T) {
	for name, p := range rights() {
		if !Right(p) || !isProgram(p) {
			t.Errorf("%s: not right", name)
		}
	}
	for name, p := range wrongs() {
		if Right(p) || isProgram(p) {
			t.Errorf("%s: right", name)
		}
	}
}

// P8.1: a program of each Op alone is right just if the Op is one, and needs nothing.
func TestEachOp(t *testing.T) {
	for k := api.OpKind(-300); k <= 600; k++ {
		want := k >= 1 && k <= 50 && k != api.OpPushTerm
		if Right(prog(0, op(k))) != want {
			t.Errorf("the Op %d: not %t", k, want)
		}
		want = k >= 1 && k <= 50
		if x := opTerm(k, list()); k == api.OpPushTerm && Right(prog(0, x)) != want {
			t.Errorf("the Op %d, with a term: not %t", k, want)
		}
	}
}

// P8.1: each Op with each of many Nums, Bits and terms, alone and together.
func TestEachOperand(t *testing.T) {
	nums := []int64{least, -1 << 32, -65536, -256, -1, 0, 1, 2, 38, 39, 40, 41, 255, 256, 257, 298, 299, 300, 301, 65535, 65536, 1 << 31, 1 << 32, most}
	bits := []uint64{0, 1, 39, 40, 1<<31 - 2, 1<<31 - 1, 1 << 31, 1 << 32, 0x3FF0000000000000, infinity, otherNaN, api.NaN, api.NaN + 1, minusNought, minusNaN, 1<<64 - 1}
	terms := []api.Term{{}, {Nodes: []api.Node{}}, num(0), list(num(1)), nodes(api.Node{}), nodes(api.Node{Kind: api.TermList, Kids: 1}), nested(16), nested(17)}
	rights := 0
	for k := api.OpKind(-1); k <= 52; k++ {
		for _, n := range nums {
			for _, b := range bits {
				for _, x := range terms {
					i := api.Instr{Op: k, Num: n, Bits: b, Term: x}
					want := isInstr(i)
					if want {
						rights++
					}
					if Right(prog(1, i)) != want {
						t.Errorf("%s: not %t", told(i), want)
					}
				}
			}
		}
	}
	if rights < 300 {
		t.Errorf("just %d are right", rights)
	}
}

// P8.1: how many arguments, and how many instructions, there are.
func TestHowMany(t *testing.T) {
	for _, args := range []int{least, -1 << 32, -257, -256, -4, -1, 0, 1, 2, 3, 4, 5, 255, 256, 259, 1 << 32, most} {
		for _, n := range []int{0, 1, 2, 255, 256, 299, 300, 301, 302, 65535, 65536, 65537} {
			want := args >= 0 && args <= 3 && n >= 1 && n <= 300
			if Right(prog(args, times(n, op(api.OpNot))...)) != want {
				t.Errorf("%d Args, %d instructions: not %t", args, n, want)
			}
		}
	}
	if Right(api.Program{Instrs: nil}) || Right(api.Program{Instrs: []api.Instr{}}) {
		t.Error("no instructions are right")
	}
}

// P8.1: one instruction that is not right, at each place of a long program.
func TestEachPlace(t *testing.T) {
	l := times(300, opNum(api.OpPushInt, 5))
	for i := range l {
		had := l[i]
		l[i] = opNum(api.OpTake, 40)
		if Right(prog(0, l...)) {
			t.Errorf("right, with a wrong one at %d", i)
		}
		l[i] = had
	}
	if !Right(prog(0, l...)) {
		t.Error("not right")
	}
}

package check

import (
	"fmt"
	"reflect"
	"slices"
	"strings"
	"testing"

	"moidore/api"
)

const (
	least = -1 << 63
	most  = 1<<63 - 1
)

func op(k api.OpKind) api.Instr             { return api.Instr{Op: k} }
func opNum(k api.OpKind, n int64) api.Instr { return api.Instr{Op: k, Num: n} }
func pushInt(n int64) api.Instr             { return opNum(api.OpPushInt, n) }
func pushTerm() api.Instr {
	return api.Instr{Op: api.OpPushTerm, Term: api.Term{Nodes: []api.Node{{Kind: api.TermBytes, Bytes: "ab"}}}}
}
func takeAt(n int) api.Instr                    { return opNum(api.OpTake, int64(n)) }
func dropAt(n int) api.Instr                    { return opNum(api.OpDrop, int64(n)) }
func jump(n int) api.Instr                      { return opNum(api.OpJump, int64(n)) }
func unless(n int) api.Instr                    { return opNum(api.OpUnless, int64(n)) }
func fail() api.Instr                           { return op(api.OpFail) }
func prog(args int, l ...api.Instr) api.Program { return api.Program{Args: args, Instrs: l} }

// row is rows of instructions, one behind the other.
func row(l ...[]api.Instr) []api.Instr { return slices.Concat(l...) }

// times is an instruction so many times.
func times(n int, i api.Instr) []api.Instr { return slices.Repeat([]api.Instr{i}, n) }

// anOp is a right instruction of an Op, which has Num, if it may.
func anOp(k api.OpKind, num int64) api.Instr {
	switch k {
	case api.OpPushTerm:
		return pushTerm()
	case api.OpPushInt, api.OpTake, api.OpDrop, api.OpJump, api.OpUnless, api.OpMakeList:
		return opNum(k, num)
	case api.OpPushReal:
		return api.Instr{Op: k, Bits: api.NaN}
	case api.OpMakeTag:
		return api.Instr{Op: k, Num: num, Bits: 1<<31 - 1}
	}
	return op(k)
}

// Stacks are written as texts, a letter each type: i an int, r a real, b bytes, f a bool, t a term; the top last.

const letters = "?irbft"

// text is a stack as such a text.
func text(l []api.TypeKind) string {
	var b strings.Builder
	for _, k := range l {
		b.WriteByte(letters[k])
	}
	return b.String()
}

// texts is all stacks of so many types.
func texts(n int) []string {
	l := []string{""}
	for range n {
		var longer []string
		for _, s := range l {
			for _, x := range letters[1:] {
				longer = append(longer, s+string(x))
			}
		}
		l = longer
	}
	return l
}

// push is instructions that leave s on the empty stack.
func push(s string) []api.Instr {
	var l []api.Instr
	for i, x := range s {
		if at := strings.LastIndexByte(s[:i], byte(x)); at >= 0 {
			l = append(l, takeAt(i-1-at))
			continue
		}
		switch x {
		case 'i':
			l = append(l, pushInt(7))
		case 'r':
			l = append(l, anOp(api.OpPushReal, 0))
		case 'b':
			l = append(l, pushTerm(), op(api.OpAsBytes))
		case 'f':
			l = append(l, pushInt(1), pushInt(2), op(api.OpIntLess))
		case 't':
			l = append(l, pushTerm())
		}
	}
	return l
}

// wantLoad wants this of Load; where that is an error, no place has a stack.
func wantLoad(t *testing.T, name string, p api.Program, most, at int, e api.Errno) {
	t.Helper()
	if m, a, f := Load(p); m != most || a != at || f != e {
		t.Errorf("%s: %d, %d, %d, not %d, %d, %d: %s", name, m, a, f, most, at, e, told(p))
	}
	if e == api.OK {
		return
	}
	for _, at := range []int{least, -1, 0, at, len(p.Instrs) - 1, len(p.Instrs), most} {
		wantNone(t, name, p, at)
	}
}

// wantStack wants this stack at a place.
func wantStack(t *testing.T, name string, p api.Program, at int, want string) {
	t.Helper()
	if l, is := Stack(p, at); text(l) != want || !is {
		t.Errorf("%s: %s, %t at %d, not %s: %s", name, text(l), is, at, want, told(p))
	}
}

// wantNone wants no stack at a place.
func wantNone(t *testing.T, name string, p api.Program, at int) {
	t.Helper()
	if l, is := Stack(p, at); l != nil || is {
		t.Errorf("%s: %s, %t at %d, where there is none: %s", name, text(l), is, at, told(p))
	}
}

// told is a program as it is told of, not too long.
func told(p api.Program) string {
	l := []string{fmt.Sprintf("Args %d", p.Args)}
	for _, i := range p.Instrs[:min(len(p.Instrs), 60)] {
		l = append(l, fmt.Sprintf("%d %d", i.Op, i.Num))
	}
	return strings.Join(l, "; ")
}

// copied is a program in memory of its own; each of its lists has room for so many more elements behind it.
func copied(p api.Program, room int) api.Program {
	p.Instrs = roomy(p.Instrs, room)
	for i := range p.Instrs {
		p.Instrs[i].Term.Nodes = roomy(p.Instrs[i].Term.Nodes, room)
	}
	return p
}

func roomy[T any](l []T, room int) []T {
	c := make([]T, len(l)+room)
	copy(c, l)
	return c[:len(l)]
}

// kept is a program as it stands in memory, with what stands in the room behind its lists.
type kept struct {
	args, long int
	instrs     []api.Instr
	nodes      [][]api.Node
}

func keep(p api.Program) kept {
	l := p.Instrs[:cap(p.Instrs)]
	k := kept{p.Args, len(p.Instrs), slices.Clone(l), nil}
	for _, i := range l {
		n := i.Term.Nodes
		k.nodes = append(k.nodes, slices.Clone(n[:cap(n)]))
	}
	return k
}

// still says whether a program stands in memory as it did.
func (k kept) still(p api.Program) bool { return reflect.DeepEqual(k, keep(p)) }

// The chapter's examples.
func TestExamples(t *testing.T) {
	p := prog(1, op(api.OpAsInt), pushInt(5), op(api.OpIntLess), op(api.OpDone))
	wantLoad(t, "example 1", p, 2, 0, api.OK)
	for at, s := range []string{"t", "i", "ii", "f"} {
		wantStack(t, "example 1", p, at, s)
	}
	wantLoad(t, "example 2", prog(0, op(api.OpDone)), 0, 0, api.ErrStack)
	wantLoad(t, "example 3", prog(2, dropAt(0), op(api.OpDone)), 0, 1, api.ErrType)
	wantLoad(t, "example 4", prog(0, pushInt(1), jump(0)), 0, 1, api.ErrJump)
}

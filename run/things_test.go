package run_test

import (
	"fmt"
	"strings"
	"testing"

	"moidore/api"
	"moidore/run"
	"moidore/term"
)

const (
	least = -1 << 63
	most  = 1<<63 - 1
)

var all = api.Budget{Steps: api.MaxBudget, Memory: api.MaxBudget}

func op(k api.OpKind) api.Instr             { return api.Instr{Op: k} }
func opNum(k api.OpKind, n int64) api.Instr { return api.Instr{Op: k, Num: n} }
func pushInt(n int64) api.Instr             { return opNum(api.OpPushInt, n) }
func pushReal(a uint64) api.Instr           { return api.Instr{Op: api.OpPushReal, Bits: a} }
func pushTerm(t api.Term) api.Instr         { return api.Instr{Op: api.OpPushTerm, Term: t} }
func takeAt(n int) api.Instr                { return opNum(api.OpTake, int64(n)) }
func dropAt(n int) api.Instr                { return opNum(api.OpDrop, int64(n)) }
func jump(n int) api.Instr                  { return opNum(api.OpJump, int64(n)) }
func unless(n int) api.Instr                { return opNum(api.OpUnless, int64(n)) }
func makeList(n int) api.Instr              { return opNum(api.OpMakeList, int64(n)) }
func makeTag(tag uint64, n int) api.Instr {
	return api.Instr{Op: api.OpMakeTag, Num: int64(n), Bits: tag}
}
func prog(args int, l ...api.Instr) api.Program { return api.Program{Args: args, Instrs: l} }

func times(n int, i api.Instr) []api.Instr {
	var l []api.Instr
	for range n {
		l = append(l, i)
	}
	return l
}

func intTerm(n int64) api.Term { return api.Term{Nodes: []api.Node{{Kind: api.TermInt, Int: n}}} }
func blobTerm(s string) api.Term {
	return api.Term{Nodes: []api.Node{{Kind: api.TermBytes, Bytes: s}}}
}
func realTerm(a uint64) api.Term { return api.Term{Nodes: []api.Node{{Kind: api.TermReal, Bits: a}}} }
func list(kids ...api.Term) api.Term {
	return term.Join(api.Node{Kind: api.TermList}, kids...)
}
func tag(n int64, kids ...api.Term) api.Term {
	return term.Join(api.Node{Kind: api.TermTag, Int: n}, kids...)
}
func dict(kids ...api.Term) api.Term {
	return term.Join(api.Node{Kind: api.TermMap}, kids...)
}

// wide is a list with so many nodes in all.
func wide(nodes int) api.Term {
	l := make([]api.Node, nodes)
	l[0] = api.Node{Kind: api.TermList, Kids: nodes - 1}
	for i := 1; i < nodes; i++ {
		l[i] = api.Node{Kind: api.TermInt, Int: int64(i)}
	}
	return api.Term{Nodes: l}
}

// steep is a list that is so deep.
func steep(deep int) api.Term {
	t := list()
	for range deep - 1 {
		t = list(t)
	}
	return t
}

// z is so many bytes.
func z(n int) string { return strings.Repeat("z", n) }

// On a stack an int is an int64, a real a uint64, bytes are a string, a bool is a bool, a term an api.Term.

// heavy is what things weigh, by the chapter's words.
func heavy(l ...any) int64 {
	n := 0
	for _, x := range l {
		switch x := x.(type) {
		case string:
			n += len(x)
		case api.Term:
			for _, y := range x.Nodes {
				n += 1 + len(y.Bytes)
			}
		}
	}
	return int64(n)
}

// part is instructions that are done one behind the other, and what they cost.
type part struct {
	l             []api.Instr
	steps, memory int64
}

// does is a part of one instruction.
func does(i api.Instr, steps, memory int64) part { return part{[]api.Instr{i}, steps, memory} }

// joined is parts, one behind the other.
func joined(l ...part) part {
	var all part
	for _, p := range l {
		all.l = append(all.l, p.l...)
		all.steps += p.steps
		all.memory += p.memory
	}
	return all
}

// puts puts things that are no greater than an instruction may have them.
func puts(l ...any) part {
	var all part
	for _, x := range l {
		switch x := x.(type) {
		case int64:
			all = joined(all, does(pushInt(x), 1, 1))
		case uint64:
			all = joined(all, does(pushReal(x), 1, 1))
		case string:
			n := int64(len(x))
			all = joined(all, does(pushTerm(blobTerm(x)), 1, n+2), does(op(api.OpAsBytes), n+2, n+1))
		case bool:
			a, b := int64(1), int64(0)
			if x {
				a, b = 0, 1
			}
			all = joined(all, does(pushInt(a), 1, 1), does(pushInt(b), 1, 1), does(op(api.OpIntLess), 1, 1))
		case api.Term:
			all = joined(all, does(pushTerm(x), 1, heavy(x)+1))
		default:
			panic("no thing")
		}
	}
	return all
}

// asks ends a run with one thing on its stack, is: it accepts, if that is the thing want. Reals are held against each other bit by bit, as terms.
func asks(is, want any) part {
	done := does(op(api.OpDone), 1, 0)
	n, m := heavy(is), heavy(want)
	switch want := want.(type) {
	case int64:
		return joined(does(pushInt(want), 1, 1), does(op(api.OpIntSame), 1, 1), done)
	case uint64:
		return joined(does(op(api.OpMakeReal), 1, 2), does(pushTerm(realTerm(want)), 1, 2), does(op(api.OpTermSame), 3, 1), done)
	case string:
		return joined(does(op(api.OpMakeBytes), n+1, n+2), does(pushTerm(blobTerm(want)), 1, m+2), does(op(api.OpTermSame), n+m+3, 1), done)
	case api.Term:
		return joined(does(pushTerm(want), 1, m+1), does(op(api.OpTermSame), n+m+1, 1), done)
	}
	if want == false {
		return joined(does(op(api.OpNot), 1, 1), done)
	}
	return done
}

// other is another thing than x, of its type.
func other(x any) any {
	switch x := x.(type) {
	case int64:
		return x ^ 1
	case uint64:
		if x == api.NaN {
			return uint64(0)
		}
		return x ^ 1<<63
	case string:
		if x == "" {
			return "a"
		}
		return x[:len(x)-1] + string(rune(x[len(x)-1]&0x7F^1))
	case bool:
		return !x
	}
	if t := intTerm(12345); !term.Same(t, x.(api.Term)) {
		return t
	}
	return list()
}

// wantRun wants this end of a program.
func wantRun(t *testing.T, name string, p api.Program, b api.Budget, want api.Outcome, args ...api.Term) {
	t.Helper()
	if got := run.Run(p, b, args...); got != want {
		t.Errorf("%s, in %v: %v, not %v: %s", name, b, got, want, told(p))
	}
}

// wantGives wants that an instruction, of these things, gives that one, at the cost that the chapter says: what it gives is held against that, and against another one. It is spent where it has a step too few, or its thing costs one too much memory.
func wantGives(t *testing.T, name string, i api.Instr, gives any, takes ...any) {
	t.Helper()
	put := puts(takes...)
	steps, memory := heavy(takes...)+1, heavy(gives)+1
	for end, want := range map[api.OutKind]any{api.OutAccepts: gives, api.OutRejects: other(gives)} {
		x := joined(put, does(i, steps, memory), asks(gives, want))
		p := prog(0, x.l...)
		wantRun(t, name, p, all, api.Outcome{Kind: end, Steps: x.steps, Memory: x.memory})
		wantRun(t, name, p, api.Budget{Steps: x.steps, Memory: x.memory}, api.Outcome{Kind: end, Steps: x.steps, Memory: x.memory})
		wantRun(t, name+", a step too few", p, api.Budget{Steps: put.steps + steps - 1, Memory: api.MaxBudget},
			api.Outcome{Kind: api.OutSpent, Steps: put.steps, Memory: put.memory})
		wantRun(t, name+", too little memory", p, api.Budget{Steps: api.MaxBudget, Memory: put.memory + memory - 1},
			api.Outcome{Kind: api.OutSpent, Steps: put.steps + steps, Memory: put.memory})
	}
}

// wantFails wants that an instruction, of these things, fails, having cost its steps and no memory, also where there is none left. Where it has a step too few, it is spent.
func wantFails(t *testing.T, name string, i api.Instr, takes ...any) {
	t.Helper()
	put := puts(takes...)
	steps := heavy(takes...) + 1
	p := prog(0, joined(put, does(i, steps, 0), does(dropAt(0), 1, 0), puts(true), does(op(api.OpDone), 1, 0)).l...)
	for _, b := range []api.Budget{all, {Steps: put.steps + steps, Memory: put.memory}} {
		wantRun(t, name, p, b, api.Outcome{Kind: api.OutFails, Steps: put.steps + steps, Memory: put.memory})
	}
	wantRun(t, name+", a step too few", p, api.Budget{Steps: put.steps + steps - 1, Memory: put.memory},
		api.Outcome{Kind: api.OutSpent, Steps: put.steps, Memory: put.memory})
}

// told is a program as it is told of, not too long.
func told(p api.Program) string {
	l := []string{fmt.Sprintf("Args %d", p.Args)}
	for _, i := range p.Instrs[:min(len(p.Instrs), 60)] {
		s := fmt.Sprintf("%d %d", i.Op, i.Num)
		if i.Bits != 0 {
			s += fmt.Sprintf(" %x", i.Bits)
		}
		if n := len(i.Term.Nodes); n > 0 {
			s += fmt.Sprintf(" %v", i.Term.Nodes[:min(n, 4)])
		}
		l = append(l, s)
	}
	return strings.ToValidUTF8(strings.Join(l, "; "), "?")
}

package check

import (
	"fmt"
	"math/rand"
	"slices"
	"strings"
	"sync"
	"testing"

	"moidore/api"
)

// wrongInstrs is instructions that are not right: Ops that are none, operands that may not be, and such as an Op does not have.
func wrongInstrs() map[string]api.Instr {
	l := map[string]api.Instr{}
	add := func(i api.Instr) {
		l[fmt.Sprintf("Op %d, %d, %x, %d nodes", i.Op, i.Num, i.Bits, len(i.Term.Nodes))] = i
	}
	for _, k := range []api.OpKind{least, -256, -1, 0, 51, 52, 256, 257, 306, 1<<32 + 49, most} {
		add(op(k))
		add(opNum(k, 1))
	}
	for _, n := range []int64{least, least + 1, -1 << 32, -256, -1, 300, 301, 65536, 1 << 32, 1<<32 + 1, most} {
		for k := api.OpPushReal; k <= api.OpDone; k++ {
			i := anOp(k, 0)
			i.Num = n
			add(i)
		}
	}
	for _, n := range []int64{40, 41, 255, 256} {
		add(opNum(api.OpTake, n))
		add(opNum(api.OpDrop, n))
		add(opNum(api.OpMakeList, n+1))
		add(anOp(api.OpMakeTag, n+1))
	}
	for k := api.OpPushInt; k <= api.OpDone; k++ {
		for _, b := range []uint64{1 << 31, 0x7FF0000000000001, 1<<64 - 1} {
			i := anOp(k, 0)
			i.Bits = b
			if k != api.OpPushReal || b != 1<<31 {
				add(i)
			}
		}
		i := anOp(k, 0)
		i.Term = api.Term{Nodes: []api.Node{{Kind: api.TermInt}, {Kind: api.TermInt}}}
		add(i)
		i.Term = api.Term{Nodes: []api.Node{{}}}
		add(i)
		if i.Term = pushTerm().Term; k != api.OpPushTerm {
			add(i)
		}
	}
	deep, many := slices.Repeat([]api.Node{{Kind: api.TermList, Kids: 1}}, 17), slices.Repeat([]api.Node{{Kind: api.TermInt}}, 101)
	deep[16].Kids = 0
	many[0] = api.Node{Kind: api.TermList, Kids: 100}
	for _, n := range [][]api.Node{nil, {}, {{Kind: 7}}, {{Kind: api.TermList, Kids: most}}, {{Kind: api.TermList, Kids: least}}, {{Kind: api.TermBytes, Bytes: strings.Repeat("z", 201)}}, deep, many} {
		l[fmt.Sprintf("a term of %d nodes, %d, %d", len(n), cap(n), len(l))] = api.Instr{Op: api.OpPushTerm, Term: api.Term{Nodes: n}}
	}
	return l
}

// wrongs is programs that are not right.
func wrongs() map[string]api.Program {
	l := map[string]api.Program{
		"nothing": {}, "no instructions": prog(1), "an empty list of them": {Args: 2, Instrs: []api.Instr{}},
		"301 instructions":   prog(0, times(301, jump(0))...),
		"many instructions":  prog(0, times(1<<16, jump(0))...),
		"301 that would fit": prog(3, append(times(300, op(api.OpKindOf)), fail())...),
	}
	for _, args := range []int{least, -1 << 32, -256, -1, 4, 5, 255, 256, 1 << 32, most} {
		l[fmt.Sprintf("%d Args", args)] = prog(args, fail())
	}
	for name, i := range wrongInstrs() {
		l[name] = prog(0, i)
		l[name+", never reached"] = prog(0, fail(), i)
		l[name+", last"] = prog(1, append(times(200, takeAt(0)), i)...)
		l[name+", first"] = prog(3, i, op(api.OpAdd), jump(299))
	}
	return l
}

// P9.1, P9.2, R1: a program that is not right, for each reason: 0, 0, ErrShape, and no stack.
func TestShape(t *testing.T) {
	for name, p := range wrongs() {
		wantLoad(t, name, p, 0, 0, api.ErrShape)
	}
}

// P9.1, R1: Nums of all sorts, of each Op, and Ops of all sorts, alone and behind one another.
func TestEachNum(t *testing.T) {
	for k := api.OpKind(-1); k <= 52; k++ {
		for _, n := range []int64{least, least + 1, -1 << 31, -40, -2, -1, 0, 1, 2, 3, 38, 39, 40, 41, 255, 256, 298, 299, 300, 1 << 31, 1 << 32, most - 1, most} {
			for args := -1; args <= 4; args++ {
				i := opNum(k, n)
				wantJudged(t, "alone", prog(args, i))
				wantJudged(t, "ahead", prog(args, i, fail()))
				wantJudged(t, "twice, behind an int", prog(args, pushInt(n), i, i, fail()))
				i.Term = pushTerm().Term
				wantJudged(t, "with a term", prog(args, i, fail()))
			}
		}
	}
}

// P9.2, R1: places where there is no instruction, of programs that load.
func TestNoPlace(t *testing.T) {
	r := rand.New(rand.NewSource(904))
	for range 300 {
		p := anyLoading(r)
		n := len(p.Instrs)
		for _, at := range []int{least, least + 1, -1 << 32, -n - 1, -n, -2, -1, n, n + 1, n + 300, 300, 1 << 32, 1<<32 + 1, most} {
			if at < 0 || at >= n {
				wantNone(t, "no instruction", p, at)
			}
		}
		if l, is := Stack(p, n-1); text(l) != judged(p).stacks[n-1] || !is {
			t.Errorf("%q, %t at the last one of %s", text(l), is, told(p))
		}
	}
}

// P9.2: no stack of programs that do not load, at none of all places, also such as were reached.
func TestNotLoaded(t *testing.T) {
	for _, p := range []api.Program{
		prog(0),
		prog(1, op(api.OpAsInt), pushInt(5), op(api.OpIntLess), op(api.OpDone), fail()),
		prog(1, op(api.OpAsInt), pushInt(5), op(api.OpIntLess), op(api.OpNeg)),
		prog(1, op(api.OpAsInt), pushInt(5), op(api.OpIntLess), op(api.OpAdd)),
		prog(1, op(api.OpAsInt), pushInt(5), op(api.OpIntLess), op(api.OpNot)),
		prog(3, fail(), op(0)),
		prog(3, times(300, pushInt(1))...),
	} {
		for at := -3; at < len(p.Instrs)+3; at++ {
			wantNone(t, "one that does not load", p, at)
		}
	}
}

// P9.2, R3: what is handed out is new memory: turned, it changes nothing that is told next, nor what was told.
func TestNewMemory(t *testing.T) {
	r := rand.New(rand.NewSource(905))
	for range 60 {
		p := anyLoading(r)
		v := judged(p)
		var all [][]api.TypeKind
		for at := range p.Instrs {
			l, _ := Stack(p, at)
			all = append(all, l)
		}
		for at, l := range all {
			again, _ := Stack(p, at)
			if text(l) != v.stacks[at] {
				t.Errorf("%q, not %q: another one that was told is turned: %s", text(l), v.stacks[at], told(p))
			}
			clear(l[:cap(l)])
			if text(again) != v.stacks[at] {
				t.Errorf("%q, not %q: what was told of it first is turned: %s", text(again), v.stacks[at], told(p))
			}
			wantStack(t, "what was told is turned", p, at, v.stacks[at])
			next := min(at+1, len(p.Instrs)-1)
			wantStack(t, "what was told is turned", p, next, v.stacks[next])
		}
		if m, at, e := Load(p); m != v.most || at != 0 || e != api.OK {
			t.Errorf("%d, %d, %d: what was told is turned", m, at, e)
		}
	}
}

// R3, R4, R6: what is given is as it was behind each call, also the room behind its lists; it plays no part in what is told, nor does how often it was asked, nor whether lists without elements are none.
func TestArguments(t *testing.T) {
	r := rand.New(rand.NewSource(906))
	var l []api.Program
	for range 80 {
		p := anyLoading(r)
		l = append(l, p, bent(r, copied(p, 0)))
	}
	for _, p := range wrongs() {
		if len(p.Instrs) < 100 {
			l = append(l, p)
		}
	}
	for _, p := range l {
		v := judged(p)
		for room := range 3 {
			q := copied(p, room)
			for i := range q.Instrs[:cap(q.Instrs)] {
				if room == 2 && i >= len(q.Instrs) {
					q.Instrs[:cap(q.Instrs)][i] = op(api.OpDone)
				}
				if room == 1 && i < len(q.Instrs) && len(q.Instrs[i].Term.Nodes) == 0 {
					q.Instrs[i].Term.Nodes = nil
				}
			}
			had := keep(q)
			for range 2 {
				wantJudged(t, "a copy", q)
				Stack(q, v.at)
				Stack(q, len(q.Instrs))
			}
			if !had.still(q) {
				t.Errorf("it was changed: %s", told(p))
			}
		}
	}
}

// R4: one program is told of alike, whatever is done beside it.
func TestAtOnce(t *testing.T) {
	r := rand.New(rand.NewSource(907))
	var l []api.Program
	for range 60 {
		p := anyLoading(r)
		l = append(l, p, bent(r, p))
	}
	var said []verdict
	for _, p := range l {
		said = append(said, judged(p))
	}
	wrong := make([]int, 8)
	var all sync.WaitGroup
	for g := range wrong {
		all.Go(func() {
			for n := range l {
				at := (n + g*11) % len(l)
				p, v := l[at], said[at]
				m, a, e := Load(p)
				s, is := Stack(p, 0)
				if m != v.most || a != v.at || e != v.e || is != (e == api.OK) || is && text(s) != v.stacks[0] {
					wrong[g]++
				}
			}
		})
	}
	all.Wait()
	if slices.Max(wrong) > 0 {
		t.Error(wrong)
	}
}

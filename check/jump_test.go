package check

import (
	"fmt"
	"strings"
	"testing"

	"moidore/api"
)

// wantJudged wants of Load and Stack what the chapter's words say; it tells what that is. Of long programs not each place is asked.
func wantJudged(t *testing.T, name string, p api.Program) verdict {
	t.Helper()
	v := judged(p)
	if m, a, f := Load(p); m != v.most || a != v.at || f != v.e {
		t.Errorf("%s: %d, %d, %d, not %d, %d, %d: %s", name, m, a, f, v.most, v.at, v.e, told(p))
	}
	if v.e != api.OK {
		wantNone(t, name, p, v.at)
	}
	for at := 0; at < len(v.stacks); at += 1 + len(v.stacks)/20 {
		wantStack(t, name, p, at, v.stacks[at])
	}
	return v
}

// P9.1: OpJump and OpUnless to each place: ahead, where they stand, behind, at the program's end, beyond it.
func TestEachPlace(t *testing.T) {
	bools := push("ff")
	for from := range 12 {
		for to := range api.MaxInstrs {
			// Behind two bools, fails; with an OpJump, each of these but its own place is reached just by it.
			l := append(bools, times(12, fail())...)
			at := len(bools) + from
			l[at] = jump(to)
			wantJudged(t, "OpJump", prog(0, l...))
			l[at] = unless(to)
			wantJudged(t, "OpUnless", prog(0, l...))
			// One way through all, the Op amid them.
			l = times(13, op(api.OpNot))
			l[from], l[12] = jump(to), fail()
			l = row(push("ff"), l)
			wantJudged(t, "OpJump amid", prog(0, l...))
			l[4+from] = unless(to)
			wantJudged(t, "OpUnless amid", prog(0, l...))
		}
	}
	for to := range 300 {
		alone, ends := prog(0, jump(to)), prog(0, append(push("f"), unless(to))...)
		if to == 0 {
			wantLoad(t, "OpJump to itself", alone, 0, 0, api.OK)
		} else {
			wantLoad(t, "OpJump alone", alone, 0, 0, api.ErrJump)
		}
		wantLoad(t, "OpUnless last", ends, 0, 3, api.ErrJump)
	}
}

// P9.1: the last place there may be, and those at the end of a program and beyond it.
func TestEndOfProgram(t *testing.T) {
	for _, n := range []int{3, 10, 299, 300} {
		for to := n - 2; to < min(n+3, api.MaxInstrs); to++ {
			l := times(n, jump(n-1))
			for i := range l {
				l[i] = jump(i + 1)
			}
			l[n-1] = fail()
			l[0] = jump(1)
			l[n-2] = jump(to)
			name := fmt.Sprintf("%d instructions, on at %d", n, to)
			switch {
			case to >= n:
				wantLoad(t, name, prog(2, l...), 0, n-2, api.ErrJump)
			case to == n-1:
				wantLoad(t, name, prog(2, l...), 2, 0, api.OK)
			default:
				wantLoad(t, name, prog(2, l...), 0, n-1, api.ErrJump) // it goes round, the last one is not reached
			}
		}
	}
}

// P9.1: back to a place that was reached with the same stack, with another type, with another height; ways that meet ahead likewise.
func TestMeet(t *testing.T) {
	back := func(s, then string) api.Program {
		first := push(s)
		drops := times(len(s), dropAt(0))
		return prog(0, row(first, drops, push(then), []api.Instr{jump(len(first))})...)
	}
	wantLoad(t, "the same", back("ib", "ib"), 2, 0, api.OK)
	wantLoad(t, "the same, empty", back("", ""), 0, 0, api.OK)
	for _, then := range []string{"bi", "ii", "rb", "i", "b", "", "ibi", "iib", "bib"} {
		p := back("ib", then)
		wantLoad(t, "back with "+then, p, 0, len(p.Instrs)-1, api.ErrJump)
	}
	ahead := func(s, other string) (api.Program, int) {
		one, two := push(s), push(other)
		start := push("f")
		l := row(start, []api.Instr{unless(len(start) + 1 + len(one) + 1)}, one, []api.Instr{jump(len(start) + 1 + len(one) + 1 + len(two))}, two, []api.Instr{fail()})
		return prog(0, l...), len(l) - 1
	}
	for _, s := range []string{"i", "ib", "tt", "rif"} {
		for _, other := range []string{"i", "ib", "tt", "rif", "t", "ti", "bi", "tti", "rift"} {
			p, end := ahead(s, other)
			if s == other {
				wantJudged(t, "ways meet", p)
				wantStack(t, "ways meet", p, end, s)
			} else {
				wantLoad(t, s+" meets "+other, p, 0, end-1, api.ErrJump)
			}
		}
	}
	// Of its own: the next one and Num are one place.
	wantLoad(t, "OpUnless to the next one", prog(0, append(push("f"), unless(4), fail())...), 2, 0, api.OK)
	wantLoad(t, "OpUnless to itself", prog(0, append(push("f"), unless(3), fail())...), 0, 3, api.ErrJump)
	wantLoad(t, "OpUnless round", prog(0, append(push("f"), unless(0), fail())...), 2, 0, api.OK)
	wantLoad(t, "OpUnless to where a bool more is", prog(0, append(push("f"), unless(2), fail())...), 0, 3, api.ErrJump)
}

// P9.1: each Op as the last instruction: what goes on has nowhere to go.
func TestLast(t *testing.T) {
	for k := api.OpPushInt; k <= api.OpDone; k++ {
		takes, _, _ := strings.Cut(line(k), ">")
		switch k {
		case api.OpTake, api.OpDrop, api.OpMakeList, api.OpMakeTag:
			takes = "tt"
		case api.OpDone:
			takes = "f"
		}
		before := push(takes)
		p := prog(0, append(before, anOp(k, 1))...)
		switch {
		case k == api.OpJump:
			p = prog(0, fail(), jump(1))
			wantLoad(t, "not reached", p, 0, 1, api.ErrJump)
		case k == api.OpFail || k == api.OpDone:
			if _, _, e := Load(p); e != api.OK {
				t.Errorf("the Op %d last: %d", k, e)
			}
		default:
			wantLoad(t, "a last one that goes on", p, 0, len(before), api.ErrJump)
		}
	}
}

// P9.1: instructions that are never reached: ErrJump at the first one, when all others are done.
func TestUnreached(t *testing.T) {
	wantLoad(t, "behind OpFail", prog(0, fail(), fail()), 0, 1, api.ErrJump)
	wantLoad(t, "behind OpFail, two", prog(0, fail(), fail(), fail()), 0, 1, api.ErrJump)
	wantLoad(t, "behind OpDone", prog(0, append(push("f"), op(api.OpDone), op(api.OpDone))...), 0, 4, api.ErrJump)
	wantLoad(t, "behind OpJump", prog(0, jump(2), fail(), fail()), 0, 1, api.ErrJump)
	wantLoad(t, "two rows of them", prog(0, jump(2), pushInt(0), jump(4), fail(), fail()), 0, 1, api.ErrJump)
	wantLoad(t, "the second row alone", prog(0, jump(1), jump(3), pushInt(0), fail(), fail()), 0, 2, api.ErrJump)
	wantLoad(t, "round", prog(3, jump(0), fail()), 0, 1, api.ErrJump)
	wantLoad(t, "two that reach one another", prog(0, fail(), jump(2), jump(1)), 0, 1, api.ErrJump)
	// What is not reached is not asked.
	wantLoad(t, "one that would not fit", prog(0, fail(), op(api.OpAdd)), 0, 1, api.ErrJump)
	wantLoad(t, "one that would go beyond", prog(0, fail(), jump(299)), 0, 1, api.ErrJump)
	// An error that is met stands ahead of it, also behind it.
	wantLoad(t, "an error behind it", prog(0, jump(2), fail(), op(api.OpAdd)), 0, 2, api.ErrStack)
	wantLoad(t, "a type behind it", prog(1, jump(2), fail(), op(api.OpNeg), fail()), 0, 2, api.ErrType)
	wantLoad(t, "a jump behind it", prog(1, jump(2), fail(), jump(4)), 0, 2, api.ErrJump)
	l := times(300, fail())
	wantLoad(t, "299 of them", prog(0, l...), 0, 1, api.ErrJump)
	for i := range l {
		l[i] = jump((i + 7) % 300)
	}
	wantLoad(t, "each one reached, far away", prog(1, l...), 1, 0, api.OK)
	for i := range l {
		l[i] = jump((i + 6) % 300)
	}
	wantLoad(t, "each sixth one reached", prog(1, l...), 0, 1, api.ErrJump)
}

// P9.1, R2: which error is told where two apply to one instruction.
func TestOrderOfErrors(t *testing.T) {
	// Too few ahead of another type.
	wantAfter(t, "r", op(api.OpAdd), "", api.ErrStack)
	wantAfter(t, "b", op(api.OpCut), "", api.ErrStack)
	wantAfter(t, "tb", op(api.OpCut), "", api.ErrStack)
	wantAfter(t, "i", opNum(api.OpMakeList, 2), "", api.ErrStack)
	wantAfter(t, "ii", op(api.OpDone), "", api.ErrStack)
	wantAfter(t, "fi", op(api.OpDone), "", api.ErrStack)
	// Too few, and another type, ahead of where it goes on.
	wantLoad(t, "nothing for OpUnless, beyond", prog(0, unless(299)), 0, 0, api.ErrStack)
	wantLoad(t, "another type for OpUnless, beyond", prog(1, unless(299)), 0, 0, api.ErrType)
	wantLoad(t, "nothing for OpAdd, last", prog(0, op(api.OpAdd)), 0, 0, api.ErrStack)
	wantLoad(t, "terms for OpAdd, last", prog(2, op(api.OpAdd)), 0, 0, api.ErrType)
	// Too few, and another type, ahead of a stack that does not meet the one there.
	meets := func(s string, i api.Instr) (api.Program, int) {
		first := push("f")
		l := row(first, []api.Instr{unless(len(first) + 2), jump(len(first) + 3 + len(push(s)))}, push(s), []api.Instr{i, fail()})
		return prog(0, l...), len(l) - 2
	}
	for s, want := range map[string]api.Errno{"i": api.ErrStack, "ir": api.ErrType, "ii": api.ErrJump} {
		p, at := meets(s, op(api.OpAdd))
		wantLoad(t, "OpAdd that meets another stack", p, 0, at, want)
	}
	// Too high ahead of where it goes on.
	full := times(40, pushInt(0))
	wantLoad(t, "too high, last", prog(0, append(full, pushInt(0))...), 0, 40, api.ErrStack)
	wantLoad(t, "too high for OpTake, last", prog(0, append(full, takeAt(5))...), 0, 40, api.ErrStack)
	wantLoad(t, "too high for OpMakeList, last", prog(0, append(full, opNum(api.OpMakeList, 0))...), 0, 40, api.ErrStack)
	// The place 45 was reached with nothing, by OpUnless, when the instruction 44 comes there with one too many.
	l := row(push("f"), []api.Instr{unless(45)}, full, []api.Instr{pushInt(0), fail()})
	wantLoad(t, "too high, where another stack stands", prog(0, l...), 0, 44, api.ErrStack)
	l[44] = pushTerm()
	wantLoad(t, "too high, with another type", prog(0, l...), 0, 44, api.ErrStack)
	l[43] = op(api.OpNot)
	wantLoad(t, "another type ahead of all that", prog(0, l...), 0, 43, api.ErrType)
	// The next one ahead of Num: both are ErrJump, at the instruction itself.
	wantLoad(t, "neither is there", prog(0, append(push("f"), unless(200))...), 0, 3, api.ErrJump)
	wantLoad(t, "just Num is there", prog(0, append(push("f"), unless(3))...), 0, 3, api.ErrJump)
	wantLoad(t, "just the next one is there", prog(0, append(push("f"), unless(200), fail())...), 0, 3, api.ErrJump)
}

// P9.1, R2: a program that is not right, ahead of all that the check would tell.
func TestShapeFirst(t *testing.T) {
	wantLoad(t, "an error at 0", prog(0, op(api.OpAdd), op(0)), 0, 0, api.ErrShape)
	wantLoad(t, "never reached", prog(0, fail(), opNum(api.OpFail, 1)), 0, 0, api.ErrShape)
	wantLoad(t, "beyond what there may be", prog(0, jump(300)), 0, 0, api.ErrShape)
	wantLoad(t, "beyond the program", prog(0, jump(299)), 0, 0, api.ErrJump)
	wantLoad(t, "more than a stack may have", prog(0, takeAt(40)), 0, 0, api.ErrShape)
	wantLoad(t, "as many as a stack may have", prog(0, takeAt(39)), 0, 0, api.ErrStack)
}

// P9.1: the order in which instructions are done: always the first one that is reached and not done.
func TestOrderOfDoing(t *testing.T) {
	f := push("ff") // 4 instructions
	fork := func(l ...api.Instr) api.Program { return prog(0, append(f, l...)...) }
	// Both ways are wrong: the next one stands ahead of Num, when Num is behind it; when Num is ahead, it.
	wantLoad(t, "the next one, then Num", fork(unless(6), op(api.OpAdd), op(api.OpNeg), fail()), 0, 5, api.ErrStack)
	wantLoad(t, "Num, then the next one", fork(jump(7), op(api.OpNeg), fail(), unless(5), op(api.OpAdd)), 0, 5, api.ErrType)
	// What is reached behind does not wait for what was reached ahead of it: 5 goes to 9, 7 comes ahead of it.
	wantLoad(t, "7 ahead of 9", fork(unless(7), jump(9), fail(), op(api.OpNeg), fail(), op(api.OpAdd), fail()), 0, 7, api.ErrType)
	// 7 goes back to 6, which comes ahead of 9, which was reached first.
	wantLoad(t, "6 ahead of 9", fork(unless(7), jump(9), op(api.OpNeg), jump(6), fail(), op(api.OpAdd), fail()), 0, 6, api.ErrType)
	// 5 goes on to the end, ahead of Num, which was reached first.
	wantLoad(t, "6, 7 ahead of 8", fork(unless(8), op(api.OpNot), op(api.OpNot), op(api.OpAdd), op(api.OpNeg)), 0, 7, api.ErrStack)
	// Two ways meet with other stacks: it is told where the second one was done, which is not the one that stands behind.
	wantLoad(t, "the one behind is second", fork(unless(7), pushInt(1), jump(8), takeAt(0), fail()), 0, 7, api.ErrJump)
	// 7 reaches 9 and 8, which goes back to 5, and so on to 9.
	wantLoad(t, "the one ahead is second", fork(jump(7), pushInt(1), jump(9), unless(9), jump(5), fail()), 0, 6, api.ErrJump)
	// 5 goes to 10, 7 to 8 and 6: all three do not fit.
	wantLoad(t, "6 ahead of 8 and 10", fork(unless(7), jump(10), op(api.OpNeg), unless(6), op(api.OpAdd), fail(), op(api.OpAdd)), 0, 6, api.ErrStack)
}

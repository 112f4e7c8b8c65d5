package run_test

import (
	"fmt"
	"testing"

	"moidore/api"
)

// yes leaves true on the stack.
func yes() []api.Instr { return puts(true).l }

// P10.1: how runs end: OpDone as its bool says, OpFail always, whatever stands there.
func TestEnds(t *testing.T) {
	wantRun(t, "true", prog(0, append(yes(), op(api.OpDone))...), all, outcome(api.OutAccepts, 4, 3))
	wantRun(t, "false", prog(0, append(yes(), op(api.OpNot), op(api.OpDone))...), all, outcome(api.OutRejects, 5, 4))
	wantRun(t, "no more than that", prog(0, append(yes(), op(api.OpNot), op(api.OpDone))...), api.Budget{Steps: 5, Memory: 4}, outcome(api.OutRejects, 5, 4))
	wantRun(t, "the end spent", prog(0, append(yes(), op(api.OpDone))...), api.Budget{Steps: 3, Memory: 3}, outcome(api.OutSpent, 3, 3))

	wantRun(t, "at once", prog(0, op(api.OpFail)), all, outcome(api.OutFails, 1, 0))
	wantRun(t, "at once, in just a step", prog(0, op(api.OpFail)), api.Budget{Steps: 1}, outcome(api.OutFails, 1, 0))
	wantRun(t, "at once, without a step", prog(0, op(api.OpFail)), api.Budget{Memory: 1}, outcome(api.OutSpent, 0, 0))
	wantRun(t, "over an argument", prog(1, op(api.OpFail)), all, outcome(api.OutFails, 1, 0), wide(50))
	wantRun(t, "over a true", prog(0, append(yes(), op(api.OpFail))...), all, outcome(api.OutFails, 4, 3))
	high := append(times(40, pushInt(1)), op(api.OpFail))
	wantRun(t, "over many", prog(0, high...), all, outcome(api.OutFails, 41, 40))
}

// P10.1: OpJump goes on at its place alone, ahead and back, at one step each.
func TestJumps(t *testing.T) {
	p := prog(0, jump(2), jump(4), jump(1), jump(5), jump(3), op(api.OpFail))
	wantRun(t, "to and fro", p, all, outcome(api.OutFails, 6, 0))
	wantRun(t, "to and fro, a step too few", p, api.Budget{Steps: 5}, outcome(api.OutSpent, 5, 0))
	// Each of 299 places once, in an order that goes about, and then the end.
	l := times(300, op(api.OpFail))
	at := 0
	for n := range 299 {
		to := (n + 1) * 67 % 299
		if n == 298 {
			to = 299
		}
		l[at] = jump(to)
		at = to
	}
	wantRun(t, "all about", prog(0, l...), all, outcome(api.OutFails, 300, 0))
	wantRun(t, "all about, a step too few", prog(0, l...), api.Budget{Steps: 299}, outcome(api.OutSpent, 299, 0))
}

// P10.1: OpUnless goes on at its place, if the bool is false, else at the next one.
func TestUnless(t *testing.T) {
	for _, is := range []bool{true, false} {
		put := puts(is)
		l := append(put.l, unless(8), pushInt(7), pushInt(7), op(api.OpIntSame), op(api.OpDone), op(api.OpFail))
		want := outcome(api.OutAccepts, 8, 6)
		if !is {
			want = outcome(api.OutFails, 5, 3)
		}
		wantRun(t, "one way or the other", prog(0, l...), all, want)
		wantRun(t, "to the next one in any case", prog(0, append(puts(is).l, unless(4), op(api.OpFail))...), all, outcome(api.OutFails, 5, 3))
	}
	// At 4 it goes back to 1, just once: there stands then what is the same.
	l := []api.Instr{pushInt(0), pushInt(1), op(api.OpAdd), takeAt(0), pushInt(2), op(api.OpIntSame), unless(1), op(api.OpFail)}
	wantRun(t, "back", prog(0, l...), all, outcome(api.OutFails, 1+6+6+1, 1+5+5))
}

// countdown goes round, from n on down, until it is at 0.
func countdown(n int64) api.Program {
	return prog(0, pushInt(n), pushInt(1), op(api.OpSub), takeAt(0), pushInt(0), op(api.OpIntSame), unless(1), pushInt(0), op(api.OpIntSame), op(api.OpDone))
}

// P10.1: what goes round ends by a bool, as long as the budget lets it.
func TestRound(t *testing.T) {
	for _, n := range []int64{1, 2, 3, 10, 1000, 174761, 174762} {
		wantRun(t, fmt.Sprintf("%d times round", n), countdown(n), all, outcome(api.OutAccepts, 6*n+4, 5*n+3))
	}
	// 1 and 6 times 174762 are 1048573: there are three more steps. One time more is too much.
	wantRun(t, "once too often", countdown(174763), all, outcome(api.OutSpent, api.MaxBudget, 1+5*174762+3))
	wantRun(t, "from 0 on", countdown(0), all, outcome(api.OutSpent, api.MaxBudget, 1+5*174762+3))
	for n := int64(1); n < 40; n++ {
		wantRun(t, "a step too few", countdown(n), api.Budget{Steps: 6*n + 3, Memory: api.MaxBudget}, outcome(api.OutSpent, 6*n+3, 5*n+3))
		wantRun(t, "too little memory", countdown(n), api.Budget{Steps: api.MaxBudget, Memory: 5*n + 2}, outcome(api.OutSpent, 6*n+3, 5*n+2))
	}

	// The sum of 1 to 10.
	sum := prog(0, pushInt(0), pushInt(10),
		takeAt(0), pushInt(0), op(api.OpIntSame), op(api.OpNot), unless(16),
		takeAt(0), takeAt(2), op(api.OpAdd), dropAt(2), takeAt(1), pushInt(1), op(api.OpSub), dropAt(2), jump(2),
		dropAt(0), pushInt(55), op(api.OpIntSame), op(api.OpDone))
	wantRun(t, "a sum", sum, all, outcome(api.OutAccepts, 151, 108))
	wantRun(t, "a sum, with just that", sum, api.Budget{Steps: 151, Memory: 108}, outcome(api.OutAccepts, 151, 108))
}

// P10.1: what goes round ends where something fails.
func TestRoundFails(t *testing.T) {
	for _, n := range []int64{0, 1, 2, 7, 1000} {
		p := prog(0, pushInt(n), pushInt(100), takeAt(1), op(api.OpDiv), dropAt(0), pushInt(1), op(api.OpSub), jump(1))
		wantRun(t, fmt.Sprintf("by %d down to 0", n), p, all, outcome(api.OutFails, 1+7*n+3, 1+5*n+2))
	}
	// It doubles, until that is no int: 62 times from 1 on.
	p := prog(0, pushInt(1), takeAt(0), op(api.OpAdd), jump(1))
	wantRun(t, "doubled", p, all, outcome(api.OutFails, 1+3*62+2, 1+2*62+1))
	// It grows by a byte, until that is more than 200.
	p = prog(0, pushTerm(blobTerm("")), op(api.OpAsBytes), pushTerm(blobTerm("z")), op(api.OpAsBytes), op(api.OpCat), jump(2))
	steps, memory := int64(3), int64(3)
	for n := range int64(200) {
		steps, memory = steps+1+3+(n+2)+1, memory+3+2+(n+2)
	}
	wantRun(t, "grown", p, all, outcome(api.OutFails, steps+1+3+202, memory+3+2))
	// A list in a list, until that is too deep.
	p = prog(0, makeList(0), makeList(1), jump(1))
	steps, memory = 1, 2
	for n := int64(1); n < 16; n++ {
		steps, memory = steps+n+1+1, memory+n+2
	}
	wantRun(t, "too deep", p, all, outcome(api.OutFails, steps+17, memory))
}

// P10.1, R1: what goes round without an end is spent, by its steps or by its memory, whichever comes first.
func TestEndless(t *testing.T) {
	for _, n := range []int64{0, 1, 2, 3, 4, 5, 100, 101, 102, 1000, api.MaxBudget - 1, api.MaxBudget} {
		for _, m := range []int64{0, 1, api.MaxBudget} {
			wantRun(t, "at one place", prog(0, jump(0)), api.Budget{Steps: n, Memory: m}, outcome(api.OutSpent, n, 0))
		}
		p := prog(0, pushInt(1), dropAt(0), jump(0))
		wantRun(t, "spent by steps", p, api.Budget{Steps: n, Memory: api.MaxBudget}, outcome(api.OutSpent, n, (n+2)/3))
		if 3*n < api.MaxBudget {
			wantRun(t, "spent by memory", p, api.Budget{Steps: api.MaxBudget, Memory: n}, outcome(api.OutSpent, 3*n+1, n))
		}
	}
	p := prog(1, takeAt(0), dropAt(0), jump(0))
	x := wide(1 << 15)
	wantRun(t, "a great one, taken often", p, all, outcome(api.OutSpent, 31*(1<<15+3), 31*(1<<15+1)), x)
	p = prog(1, takeAt(0), op(api.OpCount), dropAt(0), jump(0))
	wantRun(t, "a great one, asked often", p, all, outcome(api.OutSpent, 15*(1<<16+4)+1<<15+1, 16*(1<<15+1)+15), x)
	p = prog(0, pushTerm(blobTerm(z(200))), dropAt(0), jump(0))
	wantRun(t, "much memory", p, all, outcome(api.OutSpent, 5190*3+1, 5190*202))
}

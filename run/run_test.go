package run_test

import (
	"fmt"
	"slices"
	"testing"

	"moidore/api"
	"moidore/run"
)

func outcome(k api.OutKind, steps, memory int64) api.Outcome {
	return api.Outcome{Kind: k, Steps: steps, Memory: memory}
}

func below5() api.Program {
	return prog(1, op(api.OpAsInt), pushInt(5), op(api.OpIntLess), op(api.OpDone))
}

// The chapter's examples, and those of the document that such a program stands in.
func TestExamples(t *testing.T) {
	p := below5()
	wantRun(t, "4", p, all, outcome(api.OutAccepts, 5, 3), intTerm(4))
	wantRun(t, "4, with 2 steps", p, api.Budget{Steps: 2, Memory: api.MaxBudget}, outcome(api.OutSpent, 2, 1), intTerm(4))
	wantRun(t, "the bytes ab", p, all, outcome(api.OutFails, 4, 0), blobTerm("ab"))
	wantRun(t, "5", p, all, outcome(api.OutRejects, 5, 3), intTerm(5))
	wantRun(t, "4, with 3 steps", p, api.Budget{Steps: 3, Memory: api.MaxBudget}, outcome(api.OutSpent, 3, 2), intTerm(4))

	p = prog(3, dropAt(0), dropAt(0), dropAt(0), pushInt(1), pushInt(1), op(api.OpIntSame), op(api.OpDone))
	wantRun(t, "whatever the redeemer", p, all, outcome(api.OutAccepts, 7, 3), intTerm(1), wide(5), list())
	wantRun(t, "in 6 steps", p, api.Budget{Steps: 6, Memory: 3}, outcome(api.OutSpent, 6, 3), intTerm(1), wide(5), list())

	less := prog(2, op(api.OpAsInt), takeAt(1), op(api.OpAsInt), dropAt(2), op(api.OpIntLess), op(api.OpDone))
	wantRun(t, "the redeemer 4 below the datum 5", less, all, outcome(api.OutAccepts, 9, 5), intTerm(5), intTerm(4))
	wantRun(t, "the redeemer 5 below the datum 4", less, all, outcome(api.OutRejects, 9, 5), intTerm(4), intTerm(5))
	wantRun(t, "in three steps", less, api.Budget{Steps: 3, Memory: 5}, outcome(api.OutSpent, 2, 1), intTerm(4), intTerm(5))
}

// P10.1: a zero Outcome of what does not load.
func TestNotLoaded(t *testing.T) {
	for name, p := range map[string]api.Program{
		"nothing":                 {},
		"no instructions":         prog(1),
		"301 instructions":        prog(0, times(301, jump(0))...),
		"Args -1":                 prog(-1, op(api.OpFail)),
		"Args 4":                  prog(4, op(api.OpFail)),
		"Op 0":                    prog(0, op(0)),
		"Op 51":                   prog(0, op(51)),
		"an operand too much":     prog(0, pushInt(1), opNum(api.OpFail, 1)),
		"a term that is none":     prog(0, pushTerm(api.Term{}), op(api.OpFail)),
		"a term that fits alone":  prog(0, pushTerm(wide(101)), op(api.OpFail)),
		"a real that is none":     prog(0, pushReal(api.NaN+1), op(api.OpFail)),
		"a jump below 0":          prog(0, jump(-1)),
		"a jump behind":           prog(0, jump(1)),
		"no end":                  prog(0, pushInt(1)),
		"never reached":           prog(0, op(api.OpFail), op(api.OpFail)),
		"an empty stack":          prog(0, op(api.OpDone)),
		"another type":            prog(0, pushInt(1), op(api.OpDone)),
		"two at the end":          prog(1, pushInt(1), pushInt(1), op(api.OpIntSame), op(api.OpDone)),
		"41 high":                 prog(0, append(times(41, pushInt(1)), op(api.OpFail))...),
		"stacks that differ":      prog(0, pushInt(1), jump(0)),
		"such as fails only then": prog(1, op(api.OpAsInt), op(api.OpNeg), op(api.OpNot), op(api.OpDone)),
	} {
		for n := range 5 {
			args := slices.Repeat([]api.Term{intTerm(1)}, n)
			wantRun(t, name, p, all, api.Outcome{}, args...)
			wantRun(t, name, p, api.Budget{}, api.Outcome{}, args...)
		}
	}
}

// P10.1: a zero Outcome, unless there are Args arguments.
func TestArgs(t *testing.T) {
	for n := range 4 {
		p := prog(n, op(api.OpFail))
		for m := range 7 {
			want := api.Outcome{}
			if n == m {
				want = outcome(api.OutFails, 1, 0)
			}
			wantRun(t, fmt.Sprintf("%d of %d", m, n), p, all, want, slices.Repeat([]api.Term{intTerm(1)}, m)...)
		}
	}
	wantRun(t, "many", prog(3, op(api.OpFail)), all, api.Outcome{}, slices.Repeat([]api.Term{intTerm(1)}, 1<<16)...)
}

// fitting is terms that fit, up to their limits.
func fitting() []api.Term {
	var keys []api.Term
	for i := range 1 << 14 {
		keys = append(keys, intTerm(int64(i)), list())
	}
	return []api.Term{
		intTerm(least), blobTerm(z(200)), realTerm(api.NaN), list(), dict(), tag(0), tag(1<<31-1, list()),
		wide(100), wide(101), wide(1<<15 - 1), wide(1 << 15), steep(16), steep(17), steep(24), dict(keys[:1<<15-2]...),
	}
}

// unfit is terms that do not fit.
func unfit() []api.Term {
	of := func(l ...api.Node) api.Term { return api.Term{Nodes: l} }
	return []api.Term{
		{}, of(make([]api.Node, 0)...), wide(1<<15 + 1), wide(1 << 16), steep(25), steep(1000), list(steep(24)),
		blobTerm(z(201)), list(blobTerm(z(201))), realTerm(api.NaN + 1), realTerm(1<<64 - 1), tag(-1), tag(1 << 31),
		dict(list()), dict(intTerm(2), list(), intTerm(1), list()), dict(intTerm(2), list(), intTerm(2), list()),
		of(api.Node{}), of(api.Node{Kind: 7}), of(api.Node{Kind: -1}), of(api.Node{Kind: api.TermInt, Bits: 1}),
		of(api.Node{Kind: api.TermInt, Kids: 1}, api.Node{Kind: api.TermInt}),
		of(api.Node{Kind: api.TermList, Kids: 1}), of(api.Node{Kind: api.TermList, Kids: -1}),
		of(api.Node{Kind: api.TermList, Kids: least}), of(api.Node{Kind: api.TermList, Kids: most}),
		of(api.Node{Kind: api.TermList}, api.Node{Kind: api.TermList}),
		list(of(api.Node{})), list(list(), realTerm(api.NaN+1)),
	}
}

// P10.1: a zero Outcome, if an argument does not fit, whichever it is; with all that fit it runs.
func TestFits(t *testing.T) {
	good := intTerm(1)
	for i, x := range fitting() {
		name := fmt.Sprintf("the one %d that fits", i)
		wantRun(t, name, prog(1, op(api.OpFail)), all, outcome(api.OutFails, 1, 0), x)
		wantRun(t, name, prog(1, op(api.OpFail)), api.Budget{}, outcome(api.OutSpent, 0, 0), x)
		wantRun(t, name, prog(3, op(api.OpFail)), all, outcome(api.OutFails, 1, 0), good, x, x)
	}
	for i, x := range unfit() {
		name := fmt.Sprintf("the one %d that does not", i)
		for _, b := range []api.Budget{all, {}} {
			wantRun(t, name, prog(1, op(api.OpFail)), b, api.Outcome{}, x)
			wantRun(t, name+", first", prog(3, op(api.OpFail)), b, api.Outcome{}, x, good, good)
			wantRun(t, name+", between", prog(3, op(api.OpFail)), b, api.Outcome{}, good, x, good)
			wantRun(t, name+", last", prog(3, op(api.OpFail)), b, api.Outcome{}, good, good, x)
			wantRun(t, name+", last of two", prog(2, op(api.OpFail)), b, api.Outcome{}, good, x)
		}
	}
}

// P10.1: a zero Outcome, unless both of the budget are from 0 to MaxBudget.
func TestBudgets(t *testing.T) {
	p := below5()
	for _, bad := range []int64{least, least + 1, -1 << 32, -2, -1, api.MaxBudget + 1, 1 << 21, 1 << 32, 1<<32 + 5, most - 1, most} {
		for _, n := range []int64{0, 3, 5, api.MaxBudget, bad} {
			wantRun(t, "steps that may not be", p, api.Budget{Steps: bad, Memory: n}, api.Outcome{}, intTerm(4))
			wantRun(t, "memory that may not be", p, api.Budget{Steps: n, Memory: bad}, api.Outcome{}, intTerm(4))
		}
	}
	for _, x := range []struct {
		b    api.Budget
		want api.Outcome
	}{
		{api.Budget{}, outcome(api.OutSpent, 0, 0)},
		{api.Budget{Memory: api.MaxBudget}, outcome(api.OutSpent, 0, 0)},
		{api.Budget{Steps: api.MaxBudget}, outcome(api.OutSpent, 2, 0)},
		{api.Budget{Steps: 5, Memory: 3}, outcome(api.OutAccepts, 5, 3)},
		{api.Budget{Steps: api.MaxBudget - 1, Memory: api.MaxBudget}, outcome(api.OutAccepts, 5, 3)},
		{api.Budget{Steps: api.MaxBudget, Memory: api.MaxBudget - 1}, outcome(api.OutAccepts, 5, 3)},
		{all, outcome(api.OutAccepts, 5, 3)},
	} {
		wantRun(t, "a budget that may be", p, x.b, x.want, intTerm(4))
	}
}

// P10.1: the arguments stand there, the last one on top.
func TestTop(t *testing.T) {
	for n := 1; n <= 3; n++ {
		args := []api.Term{intTerm(10), blobTerm("twenty"), list(intTerm(30))}[:n]
		for at := range n {
			l := append(times(at, dropAt(0)), times(n-1-at, dropAt(1))...)
			x := args[n-1-at]
			end := asks(x, x)
			p := prog(n, append(l, end.l...)...)
			wantRun(t, fmt.Sprintf("%d below the top of %d", at, n), p, all, outcome(api.OutAccepts, end.steps+int64(n-1), end.memory), args...)
		}
	}
}

// P10.2: how many nodes there are, and how many bytes in them, be it a term or none.
func TestWeight(t *testing.T) {
	of := func(l ...api.Node) api.Term { return api.Term{Nodes: l} }
	for i, x := range []struct {
		t    api.Term
		want int64
	}{
		{api.Term{}, 0}, {of(make([]api.Node, 0)...), 0},
		{intTerm(least), 1}, {realTerm(api.NaN), 1}, {blobTerm(""), 1}, {blobTerm("a"), 2}, {blobTerm(z(200)), 201}, {list(), 1}, {tag(7), 1}, {dict(), 1},
		{list(intTerm(1), blobTerm("ab")), 5}, {tag(3, blobTerm("abc"), blobTerm("de")), 8}, {dict(blobTerm("a"), blobTerm("bcd")), 7},
		{list(list(list(blobTerm(z(9))), blobTerm("")), dict(intTerm(1), blobTerm("x"))), 18},
		{wide(100), 100}, {wide(1 << 15), 1 << 15}, {wide(1 << 17), 1 << 17}, {steep(24), 24}, {steep(3000), 3000},
		{of(api.Node{}), 1}, {of(api.Node{Kind: 9, Bytes: "ab"}), 3}, {of(api.Node{}, api.Node{}, api.Node{}), 3},
		{of(api.Node{Kind: api.TermInt, Bytes: "abc", Int: 5}), 4}, {of(api.Node{Kind: api.TermList, Kids: most}), 1},
		{of(api.Node{Kind: api.TermList, Kids: -3, Bytes: "z"}, api.Node{Kind: api.TermBytes, Bytes: z(300)}), 303},
		{blobTerm(z(1 << 20)), 1<<20 + 1}, {blobTerm("\xff\x00\xc3\xa4"), 5}, {blobTerm("ä"), 3},
	} {
		if got := run.Weight(x.t); got != x.want {
			t.Errorf("%d: %d, not %d", i, got, x.want)
		}
	}
	for _, x := range append(fitting(), unfit()...) {
		if got := run.Weight(x); got != heavy(x) {
			t.Errorf("%d, not %d", got, heavy(x))
		}
	}
}

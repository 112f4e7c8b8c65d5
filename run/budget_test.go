package run_test

import (
	"fmt"
	"testing"

	"moidore/api"
	"moidore/run"
)

// call is a program and its arguments.
type call struct {
	p    api.Program
	args []api.Term
}

// calls is programs that end in each way, and take and give things of each weight.
func calls() map[string]call {
	fails := op(api.OpFail)
	return map[string]call{
		"the chapter's":     {below5(), []api.Term{intTerm(4)}},
		"one that fails":    {below5(), []api.Term{blobTerm("ab")}},
		"at once":           {prog(0, fails), nil},
		"over arguments":    {prog(3, fails), []api.Term{wide(9), steep(3), blobTerm("z")}},
		"round":             {countdown(5), nil},
		"a sum too great":   {prog(0, pushInt(most), pushInt(1), op(api.OpAdd), fails), nil},
		"by 0":              {prog(0, pushInt(1), pushInt(0), op(api.OpDiv), fails), nil},
		"the least by -1":   {prog(0, pushInt(least), pushInt(-1), op(api.OpDiv), fails), nil},
		"no int":            {prog(0, pushReal(nan), op(api.OpToInt), fails), nil},
		"reals":             {prog(0, pushInt(2), op(api.OpToReal), op(api.OpRealSqrt), op(api.OpRealNeg), pushReal(minus0), op(api.OpRealLess), op(api.OpDone)), nil},
		"bytes":             {prog(2, op(api.OpAsBytes), takeAt(1), op(api.OpAsBytes), op(api.OpCat), op(api.OpSum), op(api.OpLong), pushInt(32), op(api.OpIntSame), dropAt(1), op(api.OpDone)), []api.Term{blobTerm("abc"), blobTerm("defgh")}},
		"bytes, too many":   {prog(2, op(api.OpAsBytes), takeAt(1), op(api.OpAsBytes), op(api.OpCat), fails), []api.Term{blobTerm(z(10)), blobTerm(z(191))}},
		"a cut":             {prog(1, op(api.OpAsBytes), pushInt(2), pushInt(3), op(api.OpCut), takeAt(0), op(api.OpBytesSame), op(api.OpNot), op(api.OpDone)), []api.Term{blobTerm("abcdefghi")}},
		"a cut too far":     {prog(1, op(api.OpAsBytes), pushInt(7), pushInt(3), op(api.OpCut), fails), []api.Term{blobTerm("abcdefghi")}},
		"terms":             {prog(3, makeList(2), takeAt(0), makeTag(9, 2), op(api.OpTagOf), pushInt(8), op(api.OpIntLess), dropAt(1), op(api.OpDone)), []api.Term{wide(7), blobTerm("abc"), list(list())}},
		"too deep":          {prog(1, makeList(1), makeTag(1, 1), fails), []api.Term{steep(15)}},
		"too many nodes":    {prog(1, takeAt(0), makeList(2), fails), []api.Term{wide(50)}},
		"kids":              {prog(1, takeAt(0), pushInt(1), op(api.OpKid), op(api.OpTermSame), op(api.OpDone)), []api.Term{list(blobTerm("ab"), list(intTerm(3)))}},
		"no kid":            {prog(1, pushInt(2), op(api.OpKid), fails), []api.Term{list(blobTerm("ab"), list(intTerm(3)))}},
		"no count":          {prog(1, op(api.OpCount), fails), []api.Term{realTerm(0)}},
		"a term of 5":       {prog(0, pushTerm(list(blobTerm("ab"), blobTerm("cd"))), dropAt(0), pushInt(1), pushInt(0), op(api.OpIntLess), op(api.OpDone)), nil},
		"a fork":            {prog(1, op(api.OpKindOf), pushInt(2), op(api.OpIntSame), unless(8), pushInt(1), pushInt(2), op(api.OpIntLess), op(api.OpDone), jump(9), fails), []api.Term{blobTerm("")}},
		"a fork, otherwise": {prog(1, op(api.OpKindOf), pushInt(2), op(api.OpIntSame), unless(8), pushInt(1), pushInt(2), op(api.OpIntLess), op(api.OpDone), jump(9), fails), []api.Term{list()}},
	}
}

// loaded is the calls that run.
func loaded(t *testing.T) map[string]call {
	t.Helper()
	l := calls()
	for name, c := range l {
		if run.Run(c.p, all, c.args...) == (api.Outcome{}) {
			t.Errorf("%s does not run: %s", name, told(c.p))
		}
	}
	return l
}

// wantTraced wants what the chapter's words say of a run in a budget.
func wantTraced(t *testing.T, name string, c call, l []step, b api.Budget) api.Outcome {
	t.Helper()
	o := run.Run(c.p, b, c.args...)
	if want := endOf(l, b); o != want {
		t.Errorf("%s, in %v: %v, not %v: %s", name, b, o, want, told(c.p))
	}
	return o
}

// P10.1: with each budget of steps, and each of memory, from none to one more than is used, one by one and both at once: which of them ends the run, and what was counted till then.
func TestSpent(t *testing.T) {
	for name, c := range loaded(t) {
		l := trace(all, c.p, c.args...)
		used := wantTraced(t, name, c, l, all)
		for s := range used.Steps + 2 {
			wantTraced(t, name, c, l, api.Budget{Steps: s, Memory: api.MaxBudget})
			for m := range used.Memory + 2 {
				wantTraced(t, name, c, l, api.Budget{Steps: s, Memory: m})
			}
		}
		for m := range used.Memory + 2 {
			wantTraced(t, name, c, l, api.Budget{Steps: api.MaxBudget, Memory: m})
		}
	}
}

// P10.1: which it is that ends a run, word by word: steps are asked ahead of memory, a failure comes between; neither counts of the one that is spent.
func TestWhich(t *testing.T) {
	fail := op(api.OpFail)
	push := prog(0, pushInt(1), pushTerm(blobTerm("ab")), fail)
	full := prog(0, pushInt(most), pushInt(1), op(api.OpAdd), fail)
	ab := blobTerm("ab")
	for i, x := range []struct {
		c             call
		steps, memory int64
		want          api.Outcome
	}{
		{call{push, nil}, 0, 0, outcome(api.OutSpent, 0, 0)},
		{call{push, nil}, 0, 9, outcome(api.OutSpent, 0, 0)},
		{call{push, nil}, 1, 0, outcome(api.OutSpent, 1, 0)},
		{call{push, nil}, 1, 1, outcome(api.OutSpent, 1, 1)},
		{call{push, nil}, 2, 1, outcome(api.OutSpent, 2, 1)},
		{call{push, nil}, 2, 4, outcome(api.OutSpent, 2, 1)},
		{call{push, nil}, 2, 5, outcome(api.OutSpent, 2, 5)},
		{call{push, nil}, 3, 5, outcome(api.OutFails, 3, 5)},
		{call{push, nil}, 9, 4, outcome(api.OutSpent, 2, 1)},
		// What fails fails, where there is no memory for what it would give.
		{call{full, nil}, 2, 2, outcome(api.OutSpent, 2, 2)},
		{call{full, nil}, 3, 2, outcome(api.OutFails, 3, 2)},
		{call{full, nil}, 3, 1, outcome(api.OutSpent, 2, 1)},
		// What would fail is not asked, where there are not the steps.
		{call{below5(), []api.Term{ab}}, 3, 0, outcome(api.OutSpent, 0, 0)},
		{call{below5(), []api.Term{ab}}, 4, 0, outcome(api.OutFails, 4, 0)},
		// What is taken weighs, what stands there does not.
		{call{prog(2, op(api.OpKindOf), dropAt(0), fail), []api.Term{wide(100), ab}}, 4, 1, outcome(api.OutSpent, 4, 1)},
		{call{prog(2, op(api.OpKindOf), dropAt(0), fail), []api.Term{wide(100), ab}}, 5, 1, outcome(api.OutSpent, 5, 1)},
		{call{prog(2, op(api.OpKindOf), dropAt(0), fail), []api.Term{wide(100), ab}}, 6, 1, outcome(api.OutFails, 6, 1)},
		{call{prog(2, takeAt(1), fail), []api.Term{ab, wide(100)}}, 3, 9, outcome(api.OutSpent, 0, 0)},
		{call{prog(2, takeAt(1), fail), []api.Term{ab, wide(100)}}, 4, 3, outcome(api.OutSpent, 4, 0)},
		{call{prog(2, takeAt(1), fail), []api.Term{ab, wide(100)}}, 4, 4, outcome(api.OutSpent, 4, 4)},
		{call{prog(2, takeAt(1), fail), []api.Term{ab, wide(100)}}, 5, 4, outcome(api.OutFails, 5, 4)},
	} {
		wantRun(t, fmt.Sprint(i), x.c.p, api.Budget{Steps: x.steps, Memory: x.memory}, x.want, x.c.args...)
	}
}

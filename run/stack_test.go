package run_test

import (
	"fmt"
	"slices"
	"testing"

	"moidore/api"
)

// alone leaves just the thing at a place, counted from the lowest one on, of a stack that is so high.
func alone(at, high int) part {
	var l part
	for range high - 1 - at {
		l = joined(l, does(dropAt(0), 1, 0))
	}
	for range at {
		l = joined(l, does(dropAt(1), 1, 0))
	}
	return l
}

// wantStack wants this stack, thing by thing, behind some instructions.
func wantStack(t *testing.T, name string, p part, stack ...any) {
	t.Helper()
	for at, x := range stack {
		for end, want := range map[api.OutKind]any{api.OutAccepts: x, api.OutRejects: other(x)} {
			q := joined(p, alone(at, len(stack)), asks(x, want))
			wantRun(t, fmt.Sprintf("%s, at %d", name, at), prog(0, q.l...), all, outcome(end, q.steps, q.memory))
		}
	}
}

// mixed is n things that differ, of all types.
func mixed(n int) []any {
	var l []any
	for i := range n {
		x := int64(i)
		l = append(l, []any{x, real(float64(i)), row(i, i%7), i%2 == 0, list(intTerm(x), blobTerm(row(9, i%5)))}[i%5])
	}
	return l
}

// rising is n ints.
func rising(n int) []any {
	var l []any
	for i := range n {
		l = append(l, int64(10+i))
	}
	return l
}

// P10.1: OpTake gives what stands there once more, from the top one to the lowest one of the highest stack; it costs what that weighs.
func TestTake(t *testing.T) {
	for _, high := range []int{1, 2, 3, 6, 11} {
		for n := range high {
			l := mixed(high)
			x := l[high-1-n]
			wantStack(t, fmt.Sprintf("the one %d below the top of %d", n, high), joined(puts(l...), does(takeAt(n), heavy(x)+1, heavy(x)+1)), append(l, x)...)
		}
	}
	l := rising(39)
	for n := range l {
		p := joined(puts(l...), does(takeAt(n), 1, 1))
		for _, at := range []int{39, 38, 38 - n, 0} {
			x := append(slices.Clone(l), l[38-n])[at]
			q := joined(p, alone(at, 40), asks(x, x))
			wantRun(t, fmt.Sprintf("%d below the top of 39, at %d", n, at), prog(0, q.l...), all, outcome(api.OutAccepts, q.steps, q.memory))
		}
	}
}

// P10.1: OpDrop lets what stands there go, at one step and no memory, whatever it weighs.
func TestDrop(t *testing.T) {
	for _, high := range []int{2, 3, 6, 11} {
		for n := range high {
			l := mixed(high)
			p := joined(puts(l...), does(dropAt(n), 1, 0))
			wantStack(t, fmt.Sprintf("the one %d below the top of %d", n, high), p, slices.Delete(l, high-1-n, high-n)...)
		}
	}
	l := rising(40)
	for n := range l {
		p := joined(puts(l...), does(dropAt(n), 1, 0))
		left := slices.Delete(slices.Clone(l), 39-n, 40-n)
		for _, at := range []int{38, max(38-n, 0), min(39-n, 38), 0} {
			q := joined(p, alone(at, 39), asks(left[at], left[at]))
			wantRun(t, fmt.Sprintf("%d below the top of 40, at %d", n, at), prog(0, q.l...), all, outcome(api.OutAccepts, q.steps, q.memory))
		}
	}
	p := prog(2, dropAt(1), dropAt(0), pushInt(1), pushInt(1), op(api.OpIntSame), op(api.OpDone))
	wantRun(t, "great ones", p, api.Budget{Steps: 6, Memory: 3}, outcome(api.OutAccepts, 6, 3), wide(1<<15), steep(24))
}

// P10.1: what is taken goes, and what stands below it stays.
func TestBelow(t *testing.T) {
	below := mixed(7)
	for _, x := range []struct {
		i     api.Instr
		gives any
		takes []any
	}{
		{op(api.OpAdd), int64(5), []any{int64(2), int64(3)}},
		{op(api.OpNeg), int64(-2), []any{int64(2)}},
		{op(api.OpIntLess), true, []any{int64(2), int64(3)}},
		{op(api.OpRealDiv), real(0.5), []any{real(1), real(2)}},
		{op(api.OpRealSqrt), real(3), []any{real(9)}},
		{op(api.OpRealOrder), int64(-1), []any{real(1), real(2)}},
		{op(api.OpToReal), real(2), []any{int64(2)}},
		{op(api.OpToInt), int64(2), []any{real(2.5)}},
		{op(api.OpCat), "abcd", []any{"ab", "cd"}},
		{op(api.OpCut), "bc", []any{"abcd", int64(1), int64(2)}},
		{op(api.OpLong), int64(4), []any{"abcd"}},
		{op(api.OpBytesLess), true, []any{"ab", "b"}},
		{op(api.OpNot), true, []any{false}},
		{op(api.OpOr), true, []any{false, true}},
		{op(api.OpMakeBytes), blobTerm("ab"), []any{"ab"}},
		{makeList(2), list(intTerm(1), intTerm(2)), []any{intTerm(1), intTerm(2)}},
		{makeTag(5, 0), tag(5), nil},
		{op(api.OpAsBytes), "ab", []any{blobTerm("ab")}},
		{op(api.OpCount), int64(1), []any{list(list())}},
		{op(api.OpKid), intTerm(2), []any{list(intTerm(1), intTerm(2)), int64(1)}},
		{op(api.OpTermSame), false, []any{intTerm(1), intTerm(2)}},
	} {
		p := joined(puts(below...), puts(x.takes...), does(x.i, heavy(x.takes...)+1, heavy(x.gives)+1))
		wantStack(t, fmt.Sprintf("the Op %d", x.i.Op), p, slices.Concat(below, []any{x.gives})...)
	}
}

package run_test

import (
	"math/rand"
	"reflect"
	"slices"
	"sync"
	"testing"

	"moidore/api"
	"moidore/check"
	"moidore/run"
	"moidore/term"
)

// anyBudgets is budgets of which some may not be.
func anyBudgets() []int64 {
	return []int64{least, least + 1, -1 << 32, -1, 0, 1, 2, 5, 100, api.MaxBudget - 1, api.MaxBudget, api.MaxBudget + 1, 1 << 32, most - 1, most}
}

// bent is a call near c, which may be none that runs: an instruction is another one, goes, or changes its place, or has another part; an argument comes, or is one that is bad.
func bent(r *rand.Rand, bad []api.Term, c call) call {
	l, args := slices.Clone(c.p.Instrs), slices.Clone(c.args)
	at := r.Intn(len(l))
	t := bad[r.Intn(len(bad))]
	edges := edgeInts()
	switch r.Intn(9) {
	case 0:
		l[at].Op = api.OpKind(r.Intn(54) - 1)
	case 1:
		l = slices.Delete(l, at, at+1)
	case 2:
		to := r.Intn(len(l))
		l[at], l[to] = l[to], l[at]
	case 3:
		l[at].Num = edges[r.Intn(len(edges))]
	case 4:
		l[at].Num = int64(r.Intn(len(l) + 1))
	case 5:
		l[at].Bits = r.Uint64()
	case 6:
		l[at].Term = t
	case 7:
		args = append(args, t)
	default:
		if len(args) > 0 {
			args[r.Intn(len(args))] = t
		}
	}
	return call{prog(c.p.Args, l...), args}
}

// mayRun says, by the chapter's words, whether there is an Outcome that is not zero.
func mayRun(c call, b api.Budget) bool {
	_, _, e := check.Load(c.p)
	if e != api.OK || len(c.args) != c.p.Args || b.Steps < 0 || b.Memory < 0 || b.Steps > 1<<20 || b.Memory > 1<<20 {
		return false
	}
	for _, t := range c.args {
		if !term.Fits(t, 1<<15, 24) {
			return false
		}
	}
	return true
}

// P10.1, R1: whatever comes, each call ends; what may not run has a zero Outcome, all else one that is not.
func TestWhatever(t *testing.T) {
	r, bad := rand.New(rand.NewSource(1004)), unfit()
	ran := map[bool]int{}
	for range 3000 {
		c := anyCall(r)
		for range r.Intn(3) {
			if len(c.p.Instrs) > 1 {
				c = bent(r, bad, c)
			}
		}
		l := anyBudgets()
		b := api.Budget{Steps: l[r.Intn(len(l))], Memory: l[r.Intn(len(l))]}
		if r.Intn(4) > 0 {
			b = api.Budget{Steps: 5000, Memory: 5000}
		}
		may := mayRun(c, b)
		ran[may]++
		o := run.Run(c.p, b, c.args...)
		if may {
			if want := endOf(trace(b, c.p, c.args...), b); o != want {
				t.Errorf("in %v: %v, not %v: %s", b, o, want, told(c.p))
			}
		} else if o != (api.Outcome{}) {
			t.Errorf("in %v: %v, not zero: %s", b, o, told(c.p))
		}
	}
	if ran[true] < 100 || ran[false] < 1000 {
		t.Errorf("%d ran, %d did not", ran[true], ran[false])
	}
}

// P10.1, R1: each Op with Nums of all sorts, alone and over some things; what loads does not panic.
func TestEachNum(t *testing.T) {
	for k := api.OpKind(-1); k <= 52; k++ {
		for _, n := range []int64{least, -1 << 32, -2, -1, 0, 1, 2, 3, 39, 40, 41, 255, 256, 299, 300, 1 << 31, 1 << 32, most} {
			for high := range 4 {
				for _, x := range []any{int64(n), real(float64(n)), row(5, 5), true, list(intTerm(n), list())} {
					put := puts(slices.Repeat([]any{x}, high)...)
					for _, end := range []api.Instr{op(api.OpFail), op(api.OpDone)} {
						c := call{p: prog(0, append(put.l, opNum(k, n), end)...)}
						want := api.Outcome{}
						if mayRun(c, all) {
							want = endOf(trace(all, c.p), all)
						}
						wantRun(t, "one Op", c.p, all, want)
					}
				}
			}
		}
	}
}

// roomy is a list in memory of its own, with room for so many more elements behind it.
func roomy[T any](l []T, room int) []T {
	c := make([]T, len(l)+room)
	copy(c, l)
	return c[:len(l)]
}

// copied is a call in memory of its own.
func copied(c call, room int) call {
	c.p.Instrs, c.args = roomy(c.p.Instrs, room), roomy(c.args, room)
	for i := range c.p.Instrs {
		c.p.Instrs[i].Term.Nodes = roomy(c.p.Instrs[i].Term.Nodes, room)
	}
	for i := range c.args {
		c.args[i].Nodes = roomy(c.args[i].Nodes, room)
	}
	return c
}

// kept is a call as it stands in memory, with what stands in the room behind its lists.
func kept(c call) []any {
	l := []any{c.p.Args, len(c.p.Instrs), len(c.args), slices.Clone(c.p.Instrs[:cap(c.p.Instrs)])}
	keep := func(t api.Term) {
		l = append(l, len(t.Nodes), cap(t.Nodes), slices.Clone(t.Nodes[:cap(t.Nodes)]))
	}
	for _, i := range c.p.Instrs[:cap(c.p.Instrs)] {
		keep(i.Term)
	}
	for _, t := range c.args[:cap(c.args)] {
		keep(t)
	}
	return l
}

// R3, R4, R6: what is given is as it was behind each call, also the room behind its lists, which plays no part; each call tells the same, how often it is asked; lists without elements and nil ones are one.
func TestArguments(t *testing.T) {
	r, bad := rand.New(rand.NewSource(1005)), unfit()
	var l []call
	for _, c := range calls() {
		l = append(l, c)
	}
	for range 300 {
		c := anyCall(r)
		l = append(l, c, bent(r, bad, c))
	}
	b := api.Budget{Steps: 3000, Memory: 3000}
	for _, c := range l {
		want := run.Run(c.p, b, c.args...)
		for room := range 3 {
			d := copied(c, room)
			for i := range d.p.Instrs {
				if len(d.p.Instrs[i].Term.Nodes) == 0 && room == 0 {
					d.p.Instrs[i].Term.Nodes = nil
				}
			}
			if len(d.args) == 0 && room == 0 {
				d.args = nil
			}
			had := kept(d)
			for range 3 {
				wantRun(t, "a copy", d.p, b, want, d.args...)
			}
			for _, x := range d.args {
				if n := run.Weight(x); n != heavy(x) || n != run.Weight(x) {
					t.Errorf("%d, not %d", n, heavy(x))
				}
			}
			if !reflect.DeepEqual(kept(d), had) {
				t.Errorf("it was changed: %s", told(c.p))
			}
		}
	}
}

// R3: great arguments are as they were, whatever is done with them.
func TestGreatArguments(t *testing.T) {
	for _, x := range []api.Term{wide(1 << 15), steep(24), list(blobTerm(z(200)), list(), blobTerm("ab"))} {
		for _, l := range [][]api.Instr{
			{takeAt(0), dropAt(1), dropAt(0), jump(4), op(api.OpFail)},
			{takeAt(0), op(api.OpTermSame), op(api.OpDone)},
			{takeAt(0), pushInt(0), op(api.OpKid), makeList(2), op(api.OpFail)},
			{pushInt(0), op(api.OpKid), makeTag(7, 1), takeAt(0), makeList(2), op(api.OpFail)},
		} {
			c := copied(call{prog(1, l...), []api.Term{x}}, 2)
			had := kept(c)
			if run.Run(c.p, all, c.args...) == (api.Outcome{}) {
				t.Errorf("it does not run: %s", told(c.p))
			}
			if !reflect.DeepEqual(kept(c), had) {
				t.Errorf("it was changed: %s", told(c.p))
			}
		}
	}
}

// R4: one thing is told alike, whatever is run beside it.
func TestAtOnce(t *testing.T) {
	r, bad := rand.New(rand.NewSource(1006)), unfit()
	b := api.Budget{Steps: 2000, Memory: 2000}
	var l []call
	var said []api.Outcome
	for range 80 {
		c := anyCall(r)
		l = append(l, c, bent(r, bad, c))
	}
	for _, c := range l {
		said = append(said, run.Run(c.p, b, c.args...))
	}
	wrong := make([]int, 8)
	var all sync.WaitGroup
	for g := range wrong {
		all.Go(func() {
			for n := range l {
				at := (n + g*11) % len(l)
				if run.Run(l[at].p, b, l[at].args...) != said[at] {
					wrong[g]++
				}
			}
		})
	}
	all.Wait()
	if slices.Max(wrong) > 0 {
		t.Error(wrong)
	}
}

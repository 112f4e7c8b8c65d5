package run_test

import (
	"fmt"
	"reflect"
	"slices"
	"testing"

	"moidore/api"
)

// someTerms is right terms of each kind.
func someTerms() []api.Term {
	return []api.Term{
		intTerm(0), intTerm(1), intTerm(-1), intTerm(least), intTerm(most), blobTerm(""), blobTerm("a"), blobTerm("ab"), blobTerm(z(199)), blobTerm(z(200)),
		realTerm(0), realTerm(minus0), realTerm(nan), realTerm(infinity), realTerm(minusInf), realTerm(greatest), realTerm(real(1)),
		list(), list(intTerm(1)), list(intTerm(1), intTerm(1)), list(list()), list(intTerm(2), blobTerm("xyz"), list(realTerm(0), tag(4))), list(blobTerm("ab"), intTerm(1)),
		tag(0), tag(1), tag(1<<31 - 1), tag(0, intTerm(1)), tag(7, blobTerm("k"), tag(8), list(list(intTerm(3)))), tag(1<<31-1, intTerm(1), intTerm(2)),
		dict(), dict(intTerm(1), list()), dict(intTerm(1), intTerm(5), blobTerm("a"), dict(list(), intTerm(6))),
		wide(99), steep(15),
	}
}

// P10.1: what the first node has, where it is of the kind that is asked for; else it fails.
func TestAs(t *testing.T) {
	for _, x := range someTerms() {
		n := x.Nodes[0]
		name := fmt.Sprintf("of %v", x.Nodes[:min(5, len(x.Nodes))])
		for k, as := range map[api.OpKind]struct {
			is    bool
			gives any
		}{
			api.OpAsInt:   {n.Kind == api.TermInt, n.Int},
			api.OpAsBytes: {n.Kind == api.TermBytes, n.Bytes},
			api.OpAsReal:  {n.Kind == api.TermReal, n.Bits},
			api.OpTagOf:   {n.Kind == api.TermTag, n.Int},
			api.OpCount:   {n.Kind == api.TermList || n.Kind == api.TermTag || n.Kind == api.TermMap, int64(n.Kids)},
			api.OpKindOf:  {true, int64(n.Kind)},
		} {
			if as.is {
				wantGives(t, fmt.Sprintf("%d %s", k, name), op(k), as.gives, x)
			} else {
				wantFails(t, fmt.Sprintf("%d %s", k, name), op(k), x)
			}
		}
	}
	wantGives(t, "a map's keys and values", op(api.OpCount), int64(4), dict(intTerm(1), list(), intTerm(2), list()))
	wantGives(t, "kids, not what is below them", op(api.OpCount), int64(1), list(list(list(), list())))
	for i, x := range []api.Term{intTerm(5), blobTerm("b"), realTerm(5), list(), tag(5), dict()} {
		wantGives(t, "a kind", op(api.OpKindOf), int64(i+1), x)
	}
}

// kidsOf is the kids of a term, told by its tree.
func kidsOf(t api.Term) []api.Term {
	var l []api.Term
	left := t.Nodes[1:]
	for range t.Nodes[0].Kids {
		_, behind := grown(left)
		l = append(l, api.Term{Nodes: left[:len(left)-len(behind)]})
		left = behind
	}
	return l
}

// P10.1: each kid of each term, and where there is none.
func TestKid(t *testing.T) {
	for _, x := range someTerms() {
		kids := kidsOf(x)
		for n, k := range kids {
			wantGives(t, fmt.Sprintf("the kid %d", n), op(api.OpKid), k, x, int64(n))
		}
		last := int64(len(kids))
		for _, n := range []int64{least, least + 1, -1 << 32, -last, -2, -1, last, last + 1, 1 << 32, 1<<32 + 1, most - 1, most} {
			if n < 0 || n >= last {
				wantFails(t, fmt.Sprintf("the kid %d of %d", n, last), op(api.OpKid), x, n)
			}
		}
	}
	x := list(intTerm(7), list(intTerm(8), blobTerm("nine")), intTerm(10))
	for n, k := range []api.Term{intTerm(7), list(intTerm(8), blobTerm("nine")), intTerm(10)} {
		wantGives(t, "a kid", op(api.OpKid), k, x, int64(n))
	}
	wantGives(t, "a key", op(api.OpKid), intTerm(1), dict(intTerm(1), intTerm(2)), int64(0))
	wantGives(t, "a value", op(api.OpKid), intTerm(2), dict(intTerm(1), intTerm(2)), int64(1))
}

// P10.1: whether two terms are the same: just if their nodes are.
func TestSame(t *testing.T) {
	for _, a := range someTerms() {
		for _, b := range someTerms() {
			same := reflect.DeepEqual(a.Nodes, b.Nodes)
			wantGives(t, fmt.Sprintf("whether %v is %v", a.Nodes[:min(3, len(a.Nodes))], b.Nodes[:min(3, len(b.Nodes))]), op(api.OpTermSame), same, a, b)
		}
	}
	wantGives(t, "-0 and 0", op(api.OpTermSame), false, realTerm(minus0), realTerm(0))
	wantGives(t, "NaN and itself", op(api.OpTermSame), true, realTerm(nan), realTerm(nan))
}

// P10.1: terms of an int, of bytes, of a real alone, and terms that an instruction has.
func TestMakeOne(t *testing.T) {
	for _, n := range edgeInts() {
		wantGives(t, "an int's", op(api.OpMakeInt), intTerm(n), n)
	}
	for _, a := range edgeReals() {
		wantGives(t, "a real's", op(api.OpMakeReal), realTerm(a), a)
	}
	for n := range 201 {
		wantGives(t, "bytes'", op(api.OpMakeBytes), blobTerm(row(n, n)), row(n, n))
	}
	for _, x := range append(someTerms(), wide(100), steep(16)) {
		put := puts(x)
		p := prog(0, append(put.l, op(api.OpKindOf), pushInt(int64(x.Nodes[0].Kind)), op(api.OpIntSame), op(api.OpDone))...)
		wantRun(t, "itself", p, all, outcome(api.OutAccepts, heavy(x)+5, heavy(x)+4))
	}
}

// made is a list and tags of kids, with the instructions that make them.
func made(kids ...api.Term) map[*api.Instr]api.Term {
	l := map[*api.Instr]api.Term{}
	add := func(i api.Instr, t api.Term) { l[&i] = t }
	add(makeList(len(kids)), list(kids...))
	for _, n := range []uint64{0, 1, 77, 1<<31 - 1} {
		add(makeTag(n, len(kids)), tag(int64(n), kids...))
	}
	return l
}

func anys(l ...api.Term) []any {
	var all []any
	for _, t := range l {
		all = append(all, t)
	}
	return all
}

// P10.1: lists and tags of terms, the lowest one first; up to 100 nodes, and 16 deep; else it fails.
func TestMake(t *testing.T) {
	ints := func(n int) []api.Term {
		var l []api.Term
		for i := range n {
			l = append(l, intTerm(int64(100+i)))
		}
		return l
	}
	// tens is a row of kids with so many nodes in all.
	tens := func(nodes int) []api.Term {
		var l []api.Term
		for ; nodes > 10; nodes -= 10 {
			l = append(l, wide(10))
		}
		return append(l, wide(nodes))
	}
	for name, kids := range map[string][]api.Term{
		"none": nil, "one": ints(1), "two": ints(2), "three": ints(3), "38": ints(38), "39": ints(39),
		"of each kind":      {intTerm(1), blobTerm("ab"), realTerm(nan), list(intTerm(2)), tag(3), dict(intTerm(1), list())},
		"just many enough":  tens(99),
		"one of 99 nodes":   {wide(99)},
		"two of 99 nodes":   {wide(90), wide(9)},
		"just deep enough":  {steep(15)},
		"deep, the first":   {steep(15), intTerm(1), list()},
		"deep, the last":    {list(), intTerm(1), steep(15)},
		"deep, one of many": append(ints(20), steep(15)),
		"many bytes":        {blobTerm(z(200)), blobTerm(z(200)), blobTerm(z(200))},
	} {
		for i, x := range made(kids...) {
			wantGives(t, name, *i, x, anys(kids...)...)
		}
	}
	for name, kids := range map[string][]api.Term{
		"too many": tens(100), "one of 100 nodes": {wide(100)}, "two of 100 nodes": {wide(50), wide(50)}, "far too many": {wide(100), wide(100), wide(100)},
		"too deep": {steep(16)}, "too deep, the first": {steep(16), intTerm(1)}, "too deep, the last": {intTerm(1), steep(16)}, "both": {steep(16), wide(100)},
	} {
		for i := range made(kids...) {
			wantFails(t, name, *i, anys(kids...)...)
		}
	}
}

// P10.1: of more terms below them, just the top ones are taken.
func TestMakeTop(t *testing.T) {
	below := []any{list(intTerm(5)), blobTerm("below")}
	for n := range 4 {
		kids := []api.Term{intTerm(1), blobTerm("ab"), list(intTerm(2))}[:n]
		for i, x := range made(kids...) {
			put := puts(slices.Concat(below, anys(kids...))...)
			end := asks(x, x)
			all3 := joined(put, does(*i, heavy(anys(kids...)...)+1, heavy(x)+1), does(dropAt(1), 1, 0), does(dropAt(1), 1, 0), end)
			wantRun(t, "some of them", prog(0, all3.l...), all, outcome(api.OutAccepts, all3.steps, all3.memory))
			rest := joined(put, does(*i, heavy(anys(kids...)...)+1, heavy(x)+1), does(dropAt(0), 1, 0), does(dropAt(0), 1, 0), asks(below[0], below[0]))
			wantRun(t, "what is below", prog(0, rest.l...), all, outcome(api.OutAccepts, rest.steps, rest.memory))
		}
	}
}

// P10.1: 40 terms, as many as a stack may have.
func TestMakeMost(t *testing.T) {
	var kids []api.Term
	put := part{}
	for i := range 40 {
		kids = append(kids, intTerm(int64(i)))
		put = joined(put, does(pushTerm(kids[i]), 1, 2))
	}
	for i, x := range made(kids...) {
		for at := range kids {
			p := joined(put, does(*i, 41, 42), does(pushInt(int64(at)), 1, 1), does(op(api.OpKid), 42, 2), asks(kids[at], kids[at]))
			wantRun(t, "a kid of 40", prog(0, p.l...), all, outcome(api.OutAccepts, p.steps, p.memory))
		}
		whole := joined(put, does(*i, 41, 42), asks(x, x))
		wantRun(t, "40 kids", prog(0, whole.l...), all, outcome(api.OutAccepts, whole.steps, whole.memory))
	}
}

// P10.1: arguments may be greater than terms that are right: their kids, what they are and how they are held against each other are told likewise; what is made of them is not right.
func TestGreat(t *testing.T) {
	flat := wide(1 << 15)
	p := prog(1, pushInt(1<<15-2), op(api.OpKid), op(api.OpAsInt), pushInt(1<<15-1), op(api.OpIntSame), op(api.OpDone))
	wantRun(t, "the last kid", p, all, outcome(api.OutAccepts, 1<<15+7, 6), flat)
	p = prog(1, pushInt(1<<15-1), op(api.OpKid), op(api.OpAsInt), pushInt(1<<15-1), op(api.OpIntSame), op(api.OpDone))
	wantRun(t, "one behind", p, all, outcome(api.OutFails, 1<<15+2, 1), flat)
	p = prog(1, op(api.OpCount), pushInt(1<<15-1), op(api.OpIntSame), op(api.OpDone))
	wantRun(t, "how many kids", p, all, outcome(api.OutAccepts, 1<<15+4, 3), flat)
	p = prog(2, op(api.OpTermSame), op(api.OpDone))
	wantRun(t, "the same", p, all, outcome(api.OutAccepts, 1<<16+2, 1), flat, wide(1<<15))
	wantRun(t, "another one", p, all, outcome(api.OutRejects, 1<<16+1, 1), flat, wide(1<<15-1))
	p = prog(1, takeAt(0), op(api.OpTermSame), op(api.OpDone))
	wantRun(t, "once more", p, all, outcome(api.OutAccepts, 3<<15+3, 1<<15+2), flat)

	deep := steep(24)
	p = prog(1, pushInt(0), op(api.OpKid), pushInt(0), op(api.OpKid), op(api.OpCount), pushInt(1), op(api.OpIntSame), op(api.OpDone))
	wantRun(t, "a kid's kid", p, all, outcome(api.OutAccepts, 1+25+1+24+23+3, 1+24+1+23+3), deep)

	for name, x := range map[string]api.Term{"101 nodes": wide(101), "100 nodes": wide(100), "most nodes": flat, "17 deep": steep(17), "16 deep": steep(16), "24 deep": deep} {
		for i := range made(x) {
			p = prog(1, *i, dropAt(0), pushInt(1), pushInt(1), op(api.OpIntSame), op(api.OpDone))
			wantRun(t, name, p, all, outcome(api.OutFails, heavy(x)+1, 0), x)
		}
	}
}

package term

import (
	"math/rand"
	"runtime/debug"
	"slices"
	"testing"
	"unsafe"

	"moidore/api"
)

// calls is all calls, with what they are given; each tells all that it was told, as texts.
func calls(a, b api.Term, n int) []string {
	var l []string
	say := func(is bool) {
		if is {
			l = append(l, "true")
		} else {
			l = append(l, "false")
		}
	}
	say(Right(a))
	say(Fits(a, n, n))
	l = append(l, string(rune('a'+Deep(a)%26)), string(rune('b'+Order(a, b))))
	say(Same(a, b))
	l = append(l, told(Join(api.Node{Kids: n}, a, b)))
	if len(a.Nodes) > 0 {
		l = append(l, told(Join(a.Nodes[0], b)))
	}
	for _, k := range Kids(a) {
		l = append(l, told(k))
	}
	k, is := Kid(a, n)
	say(is)
	return append(l, told(k))
}

// R3, R4: the arguments are as they were behind each call, and each call answers alike each time, also of copies of what it was given.
func TestArguments(t *testing.T) {
	r := rand.New(rand.NewSource(58))
	l := all()
	for range 2000 {
		l = append(l, anyTerm(r))
	}
	for _, a := range l {
		b := l[r.Intn(len(l))]
		n := r.Intn(5) - 1
		x, y := clone(a), clone(b)
		first := calls(a, b, n)
		if !alike(a, x) || !alike(b, y) {
			t.Errorf("changed: %s, %s", told(x), told(y))
		}
		if !slices.Equal(first, calls(a, b, n)) || !slices.Equal(first, calls(x, y, n)) {
			t.Errorf("answered in two ways: %s, %s, %d", told(x), told(y), n)
		}
	}
}

// spoil turns all nodes of a term, also those that its memory has room for behind them.
func spoil(t api.Term) {
	l := t.Nodes[:cap(t.Nodes)]
	for i := range l {
		l[i] = api.Node{Kind: -9, Int: -9, Bits: 9, Bytes: "spoilt", Kids: -9}
	}
}

// R3: what was handed out and is turned changes nothing that was handed in; and the other way round; nor one kid another.
func TestNewMemory(t *testing.T) {
	three := func() []api.Term { return []api.Term{list(num(1), text("ab")), text("cd"), num(3)} }
	node := api.Node{Kind: api.TermList}
	kids := three()
	x := Join(node, kids...)
	spoil(x)
	if !slices.EqualFunc(kids, three(), alike) {
		t.Error("Join's kids were changed")
	}
	x = Join(node, kids...)
	for i := range kids {
		spoil(kids[i])
		kids[i] = none()
	}
	wantTerm(t, "kids are turned", x, list(three()...))
	only := three()[:1]
	x = Join(node, only[0])
	spoil(x)
	wantTerm(t, "the one kid", only[0], three()[0])

	x = list(three()...)
	for i := range Kids(x) {
		l := Kids(x)
		spoil(l[i])
		for j := range l {
			if j != i {
				wantTerm(t, "another kid", l[j], three()[j])
			}
		}
		wantTerm(t, "a kid is turned", x, list(three()...))
		k, _ := Kid(x, i)
		spoil(k)
		wantTerm(t, "a kid alone is turned", x, list(three()...))
	}
	l := Kids(x)
	k, _ := Kid(x, 0)
	spoil(x)
	if !slices.EqualFunc(l, three(), alike) {
		t.Error("kids were changed")
	}
	wantTerm(t, "what it was the kid of is turned", k, three()[0])
}

// R3: a term may be given twice.
func TestTwice(t *testing.T) {
	x := list(num(1), num(2))
	wantTerm(t, "twice", Join(api.Node{Kind: api.TermTag}, x, x), tag(0, list(num(1), num(2)), list(num(1), num(2))))
	wantOrder(t, x, x, 0)
	// One of two that lie in the same memory.
	wantOrder(t, x, api.Term{Nodes: x.Nodes[:2]}, 1)
}

// shares says whether bytes lie in the same memory.
func shares(a, b string) bool { return unsafe.StringData(a) == unsafe.StringData(b) }

// R3: the bytes of a node are new memory too.
func TestNewBytes(t *testing.T) {
	a, b := string([]byte("some bytes")), string([]byte("of a node"))
	x := Join(api.Node{Kind: api.TermList, Bytes: a}, text(b), list(text(a)))
	if shares(x.Nodes[0].Bytes, a) || shares(x.Nodes[1].Bytes, b) || shares(x.Nodes[3].Bytes, a) {
		t.Error("Join hands out bytes that it was given")
	}
	for i, k := range Kids(x) {
		one, _ := Kid(x, i)
		last := len(k.Nodes) - 1
		in := x.Nodes[1+i*2].Bytes
		if k.Nodes[last].Bytes != in || one.Nodes[last].Bytes != in {
			t.Errorf("the kid %d has other bytes", i)
		}
		if shares(k.Nodes[last].Bytes, in) || shares(one.Nodes[last].Bytes, in) {
			t.Errorf("the kid %d has bytes that were given", i)
		}
	}
}

// R6: lists without elements and nil ones are one.
func TestNothing(t *testing.T) {
	empty := api.Term{Nodes: []api.Node{}}
	for _, a := range []api.Term{none(), empty} {
		if Right(a) || Fits(a, 0, 0) || Fits(a, 9, 9) || Deep(a) != 0 || Same(a, empty) || Same(none(), a) || Kids(a) != nil {
			t.Error("a term without nodes")
		}
		wantOrder(t, a, none(), 0)
		wantOrder(t, empty, a, 0)
		wantBoth(t, a, num(-1<<63), -1)
		wantKids(t, "no nodes", a)
		wantTerm(t, "Join", Join(api.Node{Kind: api.TermList}, a, a), row(api.Node{Kind: api.TermList, Kids: 2}))
	}
}

// chain is a term as deep as it is long.
func chain(n int, last api.Node) api.Term {
	l := make([]api.Node, n)
	for i := range l {
		l[i] = api.Node{Kind: api.TermList, Kids: 1}
	}
	l[n-1] = last
	return api.Term{Nodes: l}
}

// R1: terms that are as deep as they are long, far deeper than calls can stand in one another, which have little room here.
func TestVeryDeep(t *testing.T) {
	const n = 1 << 18
	defer debug.SetMaxStack(debug.SetMaxStack(1 << 22))
	leaf := api.Node{Kind: api.TermInt}
	x := chain(n, leaf)
	wantDeep(t, "a chain", x, n)
	wantFits(t, x, n, n, true)
	wantFits(t, x, n, n-1, false)
	wantFits(t, x, n-1, n, false)
	wantRight(t, "a chain", x, false)
	if k, is := Kid(x, 0); !is || len(k.Nodes) != n-1 {
		t.Error("the kid of a chain")
	}
	if l := Kids(x); len(l) != 1 || len(l[0].Nodes) != n-1 {
		t.Error("the kids of a chain")
	}
	y := clone(x)
	y.Nodes[n-1].Int = 1
	if Order(x, y) != -1 || Same(y, x) {
		t.Error("chains that differ at their ends")
	}
	y.Nodes[n-1] = api.Node{Kind: api.TermList, Kids: 1}
	wantDeep(t, "a chain without an end", y, 0)
	if Order(x, y) != 1 {
		t.Error("a chain without an end")
	}
}

// R1: maps in maps, as values and as keys, whose keys are asked for in a time that goes with their number.
func TestMapsInMaps(t *testing.T) {
	const n = 1 << 19
	pair := api.Node{Kind: api.TermMap, Kids: 2}
	leaf := api.Node{Kind: api.TermInt}
	var keys, values []api.Node
	for range n {
		keys = append(keys, pair)
		values = append(values, pair, leaf)
	}
	keys = append(keys, leaf)
	for range n {
		keys = append(keys, leaf)
	}
	values = append(values, leaf)
	wantFits(t, row(keys...), 2*n+1, n+1, true)
	wantFits(t, row(values...), 2*n+1, n+1, true)
	wantFits(t, row(values...), 2*n+1, n, false)
	// Two keys that differ in the last node alone, each a map of two such keys, and so on.
	low, high := num(0), num(1)
	for range 14 {
		low, high = pairs(low, num(0), high, num(0)), pairs(low, num(0), high, num(1))
	}
	wantFits(t, pairs(low, num(0), high, num(0)), 1<<20, 1<<20, true)
	wantFits(t, pairs(high, num(0), low, num(0)), 1<<20, 1<<20, false)
	wantFits(t, pairs(low, num(0), low, num(0)), 1<<20, 1<<20, false)
}

package term

import (
	"math/rand"
	"slices"
	"testing"

	"moidore/api"
)

func wantTerm(t *testing.T, name string, got, want api.Term) {
	t.Helper()
	if !alike(got, want) {
		t.Errorf("%s: %s, not %s", name, told(got), told(want))
	}
}

// wantKids asks the kids, and each one alone.
func wantKids(t *testing.T, name string, x api.Term, want ...api.Term) {
	t.Helper()
	if got := Kids(x); !slices.EqualFunc(got, want, alike) {
		t.Errorf("%s: %d kids of %s, not %d", name, len(got), told(x), len(want))
	}
	for i, k := range want {
		got, is := Kid(x, i)
		if !is {
			t.Errorf("%s: no kid %d of %s", name, i, told(x))
		}
		wantTerm(t, name, got, k)
	}
	for _, n := range []int{-1 << 63, -2, -1, len(want), len(want) + 1, len(x.Nodes), len(x.Nodes) + 1, 1<<63 - 1} {
		if n >= 0 && n < len(want) {
			continue
		}
		if got, is := Kid(x, n); is || got.Nodes != nil {
			t.Errorf("%s: the kid %d of %s: %s", name, n, told(x), told(got))
		}
	}
}

// P4.3: of no kids, of one, of more; of a node whose Kids says otherwise; of kids that are not in order.
func TestJoin(t *testing.T) {
	node := api.Node{Kind: api.TermList}
	wantTerm(t, "no kids", Join(node), row(node))
	wantTerm(t, "no kids, a list of them", Join(node, []api.Term{}...), row(node))
	wantTerm(t, "one", Join(node, num(1)), list(num(1)))
	wantTerm(t, "two", Join(node, list(num(1), num(2)), text("a")), list(list(num(1), num(2)), text("a")))
	wantTerm(t, "a hundred", Join(api.Node{Kind: api.TermTag, Int: 7}, nums(100)...), tag(7, nums(100)...))
	for _, kids := range []int{-1 << 63, -1, 0, 1, 2, 3, 1<<63 - 1} {
		n := api.Node{Kind: api.TermMap, Kids: kids}
		wantTerm(t, "Kids that say otherwise", Join(n), pairs())
		wantTerm(t, "Kids that say otherwise", Join(n, num(1), num(2)), pairs(num(1), num(2)))
	}
	n := api.Node{Kind: -5, Int: -7, Bits: 1<<64 - 1, Bytes: string(make([]byte, 300)), Kids: 9}
	want := n
	want.Kids = 1
	wantTerm(t, "a node that is not right", Join(n, text("ab")), row(want, text("ab").Nodes[0]))
	// Kids without nodes are counted too.
	wantTerm(t, "kids without nodes", Join(node, none(), none()), row(api.Node{Kind: api.TermList, Kids: 2}))
	odd := row(api.Node{Kind: api.TermList, Kids: 5}, num(1).Nodes[0])
	wantTerm(t, "kids that are not in order", Join(node, odd, none(), num(3)), row(api.Node{Kind: api.TermList, Kids: 3}, odd.Nodes[0], odd.Nodes[1], num(3).Nodes[0]))
	for _, a := range all() {
		for _, b := range all() {
			wantTerm(t, "two of all", Join(api.Node{Kind: api.TermTag, Int: 3, Kids: 8}, a, b), tag(3, a, b))
		}
	}
}

// P4.4: of leaves, lists, tags, maps.
func TestKids(t *testing.T) {
	wantKids(t, "an int", num(1))
	wantKids(t, "bytes", text("ab"))
	wantKids(t, "a real", realOf(one))
	wantKids(t, "an empty list", list())
	wantKids(t, "an empty tag", tag(3))
	wantKids(t, "an empty map", pairs())
	wantKids(t, "a list", list(num(1), text("ab")), num(1), text("ab"))
	wantKids(t, "a list of lists", list(list(num(1), list(num(2))), num(3), list(), list(list())), list(num(1), list(num(2))), num(3), list(), list(list()))
	wantKids(t, "a tag", tag(3, list(num(1)), num(2)), list(num(1)), num(2))
	wantKids(t, "a map", pairs(num(1), list(num(2)), num(3), num(4)), num(1), list(num(2)), num(3), num(4))
	wantKids(t, "99 kids", list(nums(99)...), nums(99)...)
	wantKids(t, "1000 kids", list(nums(1000)...), nums(1000)...)
	wantKids(t, "an int with kids", over(api.Node{Kind: api.TermInt}, num(1), list(num(2))), num(1), list(num(2)))
	wantKids(t, "keys turned round", pairs(num(2), num(0), num(1), num(0)), num(2), num(0), num(1), num(0))
	for name, x := range unordered() {
		wantKids(t, name, x)
		if Kids(x) != nil {
			t.Errorf("%s: kids are told", name)
		}
	}
	// Its first kids are in order, but it is not.
	wantKids(t, "a kid too few", row(append([]api.Node{{Kind: api.TermList, Kids: 3}}, list(num(1), num(2)).Nodes...)...))
	wantKids(t, "a node too many", row(append(list(num(1), num(2)).Nodes, num(3).Nodes...)...))
	wantKids(t, "a last one that is not in order", row(append(list(num(1)).Nodes, api.Node{Kids: 1})...))
}

// P4.4: terms of all sorts, by the chapter's words.
func TestKidsMany(t *testing.T) {
	r := rand.New(rand.NewSource(56))
	for range 30000 {
		x := anyTerm(r)
		var want []api.Term
		if y, is := grown(x); is {
			for _, k := range y.kids {
				want = append(want, k.term())
			}
		}
		wantKids(t, "any", x, want...)
	}
}

// term is the tree as a term.
func (x tree) term() api.Term {
	l := []api.Node{x.node}
	for _, k := range x.kids {
		l = append(l, k.term().Nodes...)
	}
	return api.Term{Nodes: l}
}

// P4.5: a term in order is Join of its first node and its kids.
func TestJoinOfKids(t *testing.T) {
	r := rand.New(rand.NewSource(57))
	l := all()
	for range 30000 {
		l = append(l, anyTerm(r))
	}
	for _, x := range l {
		if Deep(x) == 0 {
			continue
		}
		wantTerm(t, "put together again", Join(x.Nodes[0], Kids(x)...), x)
		wantKids(t, "of what was put together", Join(x.Nodes[0], x, x), x, x)
	}
}

// The chapter's examples.
func TestExamples(t *testing.T) {
	x := Join(api.Node{Kind: api.TermList}, num(1), text("ab"))
	wantTerm(t, "Join", x, row(api.Node{Kind: api.TermList, Kids: 2}, api.Node{Kind: api.TermInt, Int: 1}, api.Node{Kind: api.TermBytes, Bytes: "ab"}))
	wantBoth(t, realOf(minus), realOf(0), -1)
	wantBoth(t, num(1<<63-1), text(""), -1)
	wantBoth(t, list(num(1)), list(num(1), num(1)), -1)
}

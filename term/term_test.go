package term

import (
	"cmp"
	"math/rand"
	"slices"
	"strconv"
	"strings"
	"testing"

	"moidore/api"
)

const (
	minus   = 1 << 63 // a real's sign, and -0
	inf     = 0x7FF0000000000000
	one     = 0x3FF0000000000000
	mostTag = 1<<31 - 1
)

// over is a node ahead of kids: the tests' own way to a term.
func over(n api.Node, kids ...api.Term) api.Term {
	n.Kids = len(kids)
	l := []api.Node{n}
	for _, k := range kids {
		l = append(l, k.Nodes...)
	}
	return api.Term{Nodes: l}
}

func num(n int64) api.Term         { return over(api.Node{Kind: api.TermInt, Int: n}) }
func text(s string) api.Term       { return over(api.Node{Kind: api.TermBytes, Bytes: s}) }
func realOf(a uint64) api.Term     { return over(api.Node{Kind: api.TermReal, Bits: a}) }
func list(k ...api.Term) api.Term  { return over(api.Node{Kind: api.TermList}, k...) }
func pairs(k ...api.Term) api.Term { return over(api.Node{Kind: api.TermMap}, k...) }
func tag(n int64, k ...api.Term) api.Term {
	return over(api.Node{Kind: api.TermTag, Int: n}, k...)
}
func row(l ...api.Node) api.Term { return api.Term{Nodes: l} }

// none is the term without nodes.
func none() api.Term { return api.Term{} }

// nums is so many terms, ints that rise.
func nums(n int) []api.Term {
	l := make([]api.Term, n)
	for i := range l {
		l[i] = num(int64(i))
	}
	return l
}

// nested is a term that is so deep, of lists of one.
func nested(deep int, last api.Term) api.Term {
	for range deep - 1 {
		last = list(last)
	}
	return last
}

// told is a term as it is told of.
func told(t api.Term) string {
	if len(t.Nodes) > 40 {
		return "a term of " + strconv.Itoa(len(t.Nodes)) + " nodes"
	}
	l := make([]string, len(t.Nodes))
	for i, n := range t.Nodes {
		l[i] = strconv.Itoa(int(n.Kind)) + ":" + strconv.FormatInt(n.Int, 10) + ":" + strconv.FormatUint(n.Bits, 16) + ":" + strconv.Quote(n.Bytes) + ":" + strconv.Itoa(n.Kids)
	}
	return "[" + strings.Join(l, " ") + "]"
}

// alike says whether two terms have the same nodes.
func alike(a, b api.Term) bool { return slices.Equal(a.Nodes, b.Nodes) }

// clone is a term in memory of its own.
func clone(t api.Term) api.Term { return api.Term{Nodes: slices.Clone(t.Nodes)} }

// tree is a term as the chapter's words have it: a node, and its kids.
type tree struct {
	node api.Node
	kids []tree
}

// grown is t as a tree, if it is in order.
func grown(t api.Term) (tree, bool) {
	x, left, is := first(t.Nodes)
	return x, is && len(left) == 0
}

// first is the tree with which nodes begin, and what stands behind it.
func first(l []api.Node) (tree, []api.Node, bool) {
	if len(l) == 0 || l[0].Kids < 0 || l[0].Kids > len(l) {
		return tree{}, nil, false
	}
	x, left := tree{node: l[0]}, l[1:]
	for range l[0].Kids {
		k, behind, is := first(left)
		if !is {
			return tree{}, nil, false
		}
		x.kids, left = append(x.kids, k), behind
	}
	return x, left, true
}

func (x tree) deep() int {
	n := 0
	for _, k := range x.kids {
		n = max(n, k.deep())
	}
	return n + 1
}

func (x tree) count() int {
	n := 1
	for _, k := range x.kids {
		n += k.count()
	}
	return n
}

// ofKind says whether the node is of its kind, by the chapter's table.
func (x tree) ofKind() bool {
	n := x.node
	noInt, noBits, noBytes, noKids := n.Int == 0, n.Bits == 0, n.Bytes == "", n.Kids == 0
	switch n.Kind {
	case api.TermInt:
		return noBits && noBytes && noKids
	case api.TermBytes:
		return noInt && noBits && noKids && len(n.Bytes) <= 200
	case api.TermReal:
		return noInt && noBytes && noKids && (!isNone(n.Bits) || n.Bits == api.NaN)
	case api.TermList:
		return noInt && noBits && noBytes
	case api.TermTag:
		return noBits && noBytes && n.Int >= 0 && n.Int <= mostTag
	case api.TermMap:
		return noInt && noBits && noBytes && n.Kids%2 == 0 && x.rises()
	}
	return false
}

// rises says whether each key stands ahead of the next one.
func (x tree) rises() bool {
	for i := 2; i < len(x.kids); i += 2 {
		if x.kids[i-2].order(x.kids[i]) >= 0 {
			return false
		}
	}
	return true
}

// ofKinds says whether all its nodes are of their kinds.
func (x tree) ofKinds() bool {
	for _, k := range x.kids {
		if !k.ofKinds() {
			return false
		}
	}
	return x.ofKind()
}

// fits says what Fits has to.
func fits(t api.Term, most, deep int) bool {
	x, is := grown(t)
	return is && x.count() <= most && x.deep() <= deep && x.ofKinds()
}

func isNone(a uint64) bool { return a&^minus > inf }

// rank is a number that rises with reals as they stand in order.
func rank(a uint64) uint64 {
	switch {
	case isNone(a):
		return 1<<64 - 1
	case a&minus != 0:
		return ^a
	}
	return a | minus
}

// order says which of two stands ahead, by the chapter's words, one by one.
func (x tree) order(y tree) int {
	a, b := x.node, y.node
	switch {
	case a.Kind != b.Kind:
		return cmp.Compare(a.Kind, b.Kind)
	case a.Int != b.Int:
		return cmp.Compare(a.Int, b.Int)
	case rank(a.Bits) != rank(b.Bits):
		return cmp.Compare(rank(a.Bits), rank(b.Bits))
	case a.Bytes != b.Bytes:
		return bytewise(a.Bytes, b.Bytes)
	}
	for i := range min(len(x.kids), len(y.kids)) {
		if o := x.kids[i].order(y.kids[i]); o != 0 {
			return o
		}
	}
	return cmp.Compare(len(x.kids), len(y.kids))
}

func bytewise(a, b string) int {
	for i := range min(len(a), len(b)) {
		if a[i] != b[i] {
			return cmp.Compare(a[i], b[i])
		}
	}
	return cmp.Compare(len(a), len(b))
}

// ordered says what Order has to.
func ordered(a, b api.Term) int {
	x, is := grown(a)
	y, other := grown(b)
	switch {
	case is && other:
		return x.order(y)
	case is:
		return 1
	case other:
		return -1
	}
	return 0
}

// anyReal is a right real, mostly one of few.
func anyReal(r *rand.Rand) uint64 {
	l := []uint64{0, minus, 1, one, one | minus, inf, inf | minus, api.NaN}
	return l[r.Intn(len(l))]
}

// anyRight is a term that is right but for its size, at most so deep; few are great. Keys of maps are sorted by the tests' own order.
func anyRight(r *rand.Rand, deep int) api.Term {
	kind, n := 1+r.Intn(6), r.Intn(4)
	if deep <= 1 {
		n = 0
	}
	kids := make([]api.Term, n)
	for i := range kids {
		kids[i] = anyRight(r, deep-1)
	}
	switch kind {
	case 1:
		return num(int64(r.Intn(5)) - 2)
	case 2:
		return text(strings.Repeat("\x00", r.Intn(2)) + strings.Repeat("\xff", r.Intn(3)))
	case 3:
		return realOf(anyReal(r))
	case 4:
		return list(kids...)
	case 5:
		return tag(int64(r.Intn(2)), kids...)
	}
	slices.SortFunc(kids, ordered)
	kids = slices.CompactFunc(kids, alike)
	var l []api.Term
	for _, k := range kids {
		l = append(l, k, anyRight(r, deep-1))
	}
	return pairs(l...)
}

// turned is t with something turned: mostly it is not right, and often not in order.
func turned(r *rand.Rand, t api.Term) api.Term {
	t = clone(t)
	if len(t.Nodes) == 0 {
		return t
	}
	i := r.Intn(len(t.Nodes))
	n := &t.Nodes[i]
	switch r.Intn(10) {
	case 0:
		n.Kind = api.TermKind(r.Intn(9) - 1)
	case 1:
		n.Int += int64(r.Intn(3)) - 1
	case 2:
		n.Bits = []uint64{0, 1, minus, api.NaN, api.NaN | minus, inf + 1}[r.Intn(6)]
	case 3:
		n.Bytes += strings.Repeat("a", r.Intn(3))
	case 4:
		n.Kids += r.Intn(5) - 2
	case 5:
		n.Kids = []int{-1 << 63, 1<<63 - 1, 1 << 62, len(t.Nodes), len(t.Nodes) + 1, 0}[r.Intn(6)]
	case 6:
		t.Nodes = slices.Delete(t.Nodes, i, i+1)
	case 7:
		t.Nodes = slices.Insert(t.Nodes, i, api.Node{Kind: api.TermInt})
	case 8:
		k := r.Intn(len(t.Nodes))
		t.Nodes[i], t.Nodes[k] = t.Nodes[k], t.Nodes[i]
	case 9:
		t.Nodes = t.Nodes[:i]
	}
	return t
}

// anyTerm is a term, right or not.
func anyTerm(r *rand.Rand) api.Term {
	t := anyRight(r, 1+r.Intn(5))
	for range r.Intn(3) {
		t = turned(r, t)
	}
	return t
}

// unordered is terms that are not in order, by what is wrong with them.
func unordered() map[string]api.Term {
	return map[string]api.Term{
		"no nodes":                       none(),
		"no nodes, a list of them":       {Nodes: []api.Node{}},
		"a node too many":                row(num(1).Nodes[0], num(2).Nodes[0]),
		"a list, and a node too many":    row(append(list(num(1)).Nodes, num(2).Nodes...)...),
		"a kid too few":                  row(api.Node{Kind: api.TermList, Kids: 1}),
		"a kid too few of two":           row(api.Node{Kind: api.TermList, Kids: 2}, num(1).Nodes[0]),
		"a kid too few below":            row(api.Node{Kind: api.TermList, Kids: 1}, api.Node{Kind: api.TermTag, Kids: 1}),
		"a kid below takes too many":     row(api.Node{Kind: api.TermList, Kids: 2}, api.Node{Kind: api.TermList, Kids: 1}, num(1).Nodes[0]),
		"minus one kid":                  row(api.Node{Kind: api.TermList, Kids: -1}),
		"minus one kid, and a node":      row(api.Node{Kind: api.TermList, Kids: -1}, num(1).Nodes[0]),
		"minus one kid of an int":        row(api.Node{Kind: api.TermInt, Kids: -1}),
		"minus one kid amid":             row(api.Node{Kind: api.TermList, Kids: 2}, api.Node{Kind: api.TermList, Kids: -1}, num(1).Nodes[0]),
		"minus one made good by one":     row(api.Node{Kind: api.TermList, Kids: 1}, api.Node{Kind: api.TermList, Kids: 2}, api.Node{Kind: api.TermList, Kids: -1}),
		"as few kids as can be":          row(api.Node{Kind: api.TermList, Kids: -1 << 63}),
		"as few kids as can be, a list":  row(api.Node{Kind: api.TermList, Kids: 1}, api.Node{Kind: api.TermList, Kids: -1 << 63}),
		"as many kids as can be":         row(api.Node{Kind: api.TermList, Kids: 1<<63 - 1}),
		"as many, and a node":            row(api.Node{Kind: api.TermList, Kids: 1<<63 - 1}, num(1).Nodes[0]),
		"twice as many as can be":        row(api.Node{Kind: api.TermList, Kids: 1<<63 - 1}, api.Node{Kind: api.TermList, Kids: 1<<63 - 1}, num(1).Nodes[0]),
		"2^62 kids, four of them":        row(api.Node{Kind: api.TermList, Kids: 1 << 62}, api.Node{Kind: api.TermList, Kids: 1 << 62}, api.Node{Kind: api.TermList, Kids: 1 << 62}, api.Node{Kind: api.TermList, Kids: 1 << 62}),
		"2^32 kids, and one":             row(api.Node{Kind: api.TermList, Kids: 1<<32 + 1}, num(1).Nodes[0]),
		"one that is beyond, then whole": row(api.Node{Kind: api.TermInt}, api.Node{Kind: api.TermList, Kids: 1}, num(1).Nodes[0]),
	}
}

// misshapen is terms that are in order, and not right but for their size.
func misshapen() map[string]api.Term {
	return map[string]api.Term{
		"a kind that is none":        row(api.Node{}),
		"the kind -1":                row(api.Node{Kind: -1}),
		"the kind 7":                 row(api.Node{Kind: 7}),
		"a kind that is great":       row(api.Node{Kind: 1 << 40}),
		"a kind that is none, below": list(num(1), row(api.Node{})),
		"an int with bits":           row(api.Node{Kind: api.TermInt, Int: 1, Bits: 1}),
		"an int with the bits of -0": row(api.Node{Kind: api.TermInt, Bits: minus}),
		"an int with bytes":          row(api.Node{Kind: api.TermInt, Bytes: "a"}),
		"an int with a byte 0":       row(api.Node{Kind: api.TermInt, Bytes: "\x00"}),
		"an int with a kid":          over(api.Node{Kind: api.TermInt}, num(1)),
		"bytes with an int":          row(api.Node{Kind: api.TermBytes, Int: 1}),
		"bytes with bits":            row(api.Node{Kind: api.TermBytes, Bits: 1}),
		"bytes with a kid":           over(api.Node{Kind: api.TermBytes}, num(1)),
		"bytes that are too many":    text(strings.Repeat("a", 201)),
		"too many bytes below":       list(text(strings.Repeat("a", 201))),
		"a real with an int":         row(api.Node{Kind: api.TermReal, Int: 1, Bits: one}),
		"a real with bytes":          row(api.Node{Kind: api.TermReal, Bytes: "a"}),
		"a real with a kid":          over(api.Node{Kind: api.TermReal}, num(1)),
		"a real that is not right":   realOf(api.NaN + 1),
		"the least NaN":              realOf(inf + 1),
		"a NaN with a sign":          realOf(api.NaN | minus),
		"all bits":                   realOf(1<<64 - 1),
		"a list with an int":         row(api.Node{Kind: api.TermList, Int: 1}),
		"a list with bits":           row(api.Node{Kind: api.TermList, Bits: 1}),
		"a list with bytes":          over(api.Node{Kind: api.TermList, Bytes: "a"}, num(1)),
		"a tag with bits":            row(api.Node{Kind: api.TermTag, Bits: 1}),
		"a tag with bytes":           row(api.Node{Kind: api.TermTag, Bytes: "a"}),
		"the tag 2^31":               tag(1 << 31),
		"the tag 2^32":               tag(1<<32, num(1)),
		"the tag -1":                 tag(-1),
		"the least tag":              tag(-1 << 63),
		"the greatest tag":           tag(1<<63 - 1),
		"a map with an int":          row(api.Node{Kind: api.TermMap, Int: 1}),
		"a map with bits":            row(api.Node{Kind: api.TermMap, Bits: 1}),
		"a map with bytes":           row(api.Node{Kind: api.TermMap, Bytes: "a"}),
		"a map of one":               pairs(num(1)),
		"a map of three":             pairs(num(1), num(2), num(3)),
		"a map of three, below":      list(pairs(num(1), num(2), num(3))),
		"keys that are the same":     pairs(num(1), num(2), num(1), num(2)),
		"keys turned round":          pairs(num(2), num(1), num(1), num(2)),
		"the last keys the same":     pairs(num(1), num(0), num(2), num(0), num(2), num(0)),
		"the last keys turned":       pairs(num(1), num(0), num(3), num(0), num(2), num(0)),
		"the first keys turned":      pairs(num(2), num(0), num(1), num(0), num(3), num(0)),
		"keys of kinds, turned":      pairs(text(""), num(0), num(7), num(0)),
		"reals as keys, 0 ahead":     pairs(realOf(0), num(0), realOf(minus), num(0)),
		"NaN as two keys":            pairs(realOf(api.NaN), num(0), realOf(api.NaN), num(1)),
		"NaN ahead of a number":      pairs(realOf(api.NaN), num(0), realOf(inf), num(1)),
		"lists as keys, turned":      pairs(list(num(1), num(1)), num(0), list(num(1)), num(0)),
		"lists as keys, the same":    pairs(list(num(1)), num(0), list(num(1)), num(1)),
		"lists as keys, first kids":  pairs(list(num(2)), num(0), list(num(1), num(9)), num(0)),
		"maps as keys, turned":       pairs(pairs(num(1), num(2)), num(0), pairs(), num(0)),
		"maps as keys, the same":     pairs(pairs(num(1), num(2)), num(0), pairs(num(1), num(2)), num(0)),
		"a key that is no right map": pairs(pairs(num(2), num(0), num(1), num(0)), num(0)),
		"a value that is none":       pairs(num(1), pairs(num(2), num(0), num(1), num(0))),
		"a map below, turned":        list(num(1), pairs(num(2), num(0), num(1), num(0))),
	}
}

// rightOnes is terms that are right, of each kind, at their ends.
func rightOnes() map[string]api.Term {
	return map[string]api.Term{
		"the least int":            num(-1 << 63),
		"0":                        num(0),
		"the greatest int":         num(1<<63 - 1),
		"no bytes":                 text(""),
		"a byte 0":                 text("\x00"),
		"200 bytes":                text(strings.Repeat("\xff", 200)),
		"the real 0":               realOf(0),
		"the real -0":              realOf(minus),
		"the least real above 0":   realOf(1),
		"an infinity":              realOf(inf),
		"the negative infinity":    realOf(inf | minus),
		"NaN":                      realOf(api.NaN),
		"an empty list":            list(),
		"a list":                   list(num(1), text("ab")),
		"a list of 99":             list(nums(99)...),
		"the tag 0":                tag(0),
		"the tag 2^31 - 1":         tag(mostTag, num(1), list()),
		"16 deep":                  nested(16, num(1)),
		"16 deep, an empty list":   nested(16, list()),
		"an empty map":             pairs(),
		"a map of one key":         pairs(num(1), num(1)),
		"a map of values turned":   pairs(num(1), num(9), num(2), num(8), num(3), num(8)),
		"keys of all kinds":        pairs(num(9), num(0), text(""), num(0), realOf(0), num(0), list(), num(0), tag(0), num(0), pairs(), num(0)),
		"bytes as keys":            pairs(text(""), num(0), text("\x00"), num(0), text("a"), num(0), text("ab"), num(0), text("b"), num(0)),
		"reals as keys":            pairs(realOf(inf|minus), num(0), realOf(minus), num(0), realOf(0), num(0), realOf(one), num(0), realOf(inf), num(0), realOf(api.NaN), num(0)),
		"lists as keys":            pairs(list(), num(0), list(num(1)), num(0), list(num(1), num(1)), num(0), list(num(2)), num(0), list(text("")), num(0)),
		"tags as keys":             pairs(tag(0, num(5)), num(0), tag(1), num(0), tag(1, num(0)), num(0)),
		"maps as keys":             pairs(pairs(), num(0), pairs(num(1), num(2)), num(0), pairs(num(1), num(2), num(3), num(0)), num(0), pairs(num(1), num(3)), num(0)),
		"maps in maps":             pairs(pairs(pairs(), pairs()), pairs(pairs(), pairs(list(), list()))),
		"a list of lists and ints": list(list(num(1), list()), num(1), list(list(), list())),
	}
}

// all is terms of all sorts: right, not right, not in order.
func all() []api.Term {
	var l []api.Term
	for _, m := range []map[string]api.Term{rightOnes(), misshapen(), unordered()} {
		for _, t := range m {
			l = append(l, t)
		}
	}
	slices.SortStableFunc(l, func(a, b api.Term) int { return strings.Compare(told(a), told(b)) })
	return l
}

// The terms that the tests name are what they are called, by the chapter's words.
func TestTerms(t *testing.T) {
	for name, x := range rightOnes() {
		if !fits(x, 100, 16) {
			t.Errorf("%s is not right: %s", name, told(x))
		}
	}
	for name, x := range misshapen() {
		if _, is := grown(x); !is || fits(x, 1000, 1000) {
			t.Errorf("%s: %s", name, told(x))
		}
	}
	for name, x := range unordered() {
		if _, is := grown(x); is {
			t.Errorf("%s is in order: %s", name, told(x))
		}
	}
}

package first_test

import (
	"encoding/hex"
	"fmt"
	"slices"
	"strings"
	"testing"

	"moidore/api"
	"moidore/first"
	"moidore/sum"
	"moidore/term"
)

func nodes(l ...api.Node) api.Term { return api.Term{Nodes: l} }

// nested is lists in one another, so deep.
func nested(deep int) api.Term {
	l := many(deep-1, api.Node{Kind: api.TermList, Kids: 1})
	return nodes(append(l, api.Node{Kind: api.TermInt})...)
}

// rightTerms is right terms, and their bytes, written down by hand.
func rightTerms() map[string]api.Term {
	return map[string]api.Term{
		"01 0000000000000007":                      num(7),
		"01 ffffffffffffffff":                      num(-1),
		"01 8000000000000000":                      num(least),
		"02 0000":                                  text(""),
		"02 0002 6162":                             text("ab"),
		"02 00c8 " + strings.Repeat("7a", 200):     text(strings.Repeat("z", 200)),
		"03 0000000000000000":                      nodes(api.Node{Kind: api.TermReal}),
		"03 8000000000000000":                      nodes(api.Node{Kind: api.TermReal, Bits: 1 << 63}),
		"03 7ff8000000000000":                      nodes(api.Node{Kind: api.TermReal, Bits: api.NaN}),
		"04 0000":                                  list(),
		"04 0002 01 0000000000000001 02 0002 6162": list(num(1), text("ab")),
		"04 0001 04 0000":                          list(list()),
		"05 00000000 0000":                         nodes(api.Node{Kind: api.TermTag}),
		"05 7fffffff 0001 01 0000000000000002":     term.Join(api.Node{Kind: api.TermTag, Int: 1<<31 - 1}, num(2)),
		"06 0000":                                  nodes(api.Node{Kind: api.TermMap}),
		"06 0002 01 0000000000000001 01 0000000000000002":                term.Join(api.Node{Kind: api.TermMap}, num(1), num(2)),
		"04 0063 " + strings.Repeat("02 0000 ", 99):                      list(many(99, text(""))...),
		strings.Repeat("04 0001 ", 15) + "01" + strings.Repeat(" 00", 8): nested(16),
	}
}

func wrongTerms() map[string]api.Term {
	return map[string]api.Term{
		"none": {}, "an empty one": nodes([]api.Node{}...), "no kind": nodes(api.Node{}), "the kind 7": nodes(api.Node{Kind: 7}), "the kind -1": nodes(api.Node{Kind: -1}), "the kind 257": nodes(api.Node{Kind: 257}),
		"201 bytes": text(strings.Repeat("z", 201)), "bytes that are an int too": nodes(api.Node{Kind: api.TermBytes, Int: 1}), "another NaN": nodes(api.Node{Kind: api.TermReal, Bits: api.NaN + 1}),
		"the tag -1": nodes(api.Node{Kind: api.TermTag, Int: -1}), "the tag 2^31": nodes(api.Node{Kind: api.TermTag, Int: 1 << 31}),
		"a key alone": term.Join(api.Node{Kind: api.TermMap}, num(1)), "keys that fall": term.Join(api.Node{Kind: api.TermMap}, num(2), num(1), num(1), num(1)), "a key twice": term.Join(api.Node{Kind: api.TermMap}, many(4, num(1))...),
		"101 nodes": list(many(100, num(1))...), "17 deep": nested(17), "two terms": nodes(api.Node{Kind: api.TermInt}, api.Node{Kind: api.TermInt}),
		"a kid too few": nodes(api.Node{Kind: api.TermList, Kids: 1}), "-1 kids": nodes(api.Node{Kind: api.TermList, Kids: -1}), "the most kids": nodes(api.Node{Kind: api.TermList, Kids: most}),
		"a wrong term in a right one": list(num(1), text(strings.Repeat("z", 201))),
	}
}

// P15.1: a right term's hash is that of its bytes; no two have one.
func TestHash(t *testing.T) {
	t.Parallel()
	seen := map[api.Hash]string{}
	for s, x := range rightTerms() {
		b, e := hex.DecodeString(strings.ReplaceAll(s, " ", ""))
		if e != nil || !term.Right(x) {
			t.Fatalf("%s: %v", s, e)
		}
		if got, is := first.Hash(x); got != sum.Of(b) || !is {
			t.Errorf("%s: %x, %t", s, got, is)
		}
		seen[sum.Of(b)] = s
	}
	if len(seen) != len(rightTerms()) {
		t.Error("two terms of one hash")
	}
}

// P15.1: others have none.
func TestWrongHash(t *testing.T) {
	t.Parallel()
	l := wrongTerms()
	for bytes, x := range rightTerms() {
		for i := range x.Nodes {
			y := nodes(slices.Clone(x.Nodes)...)
			y.Nodes[i].Kids++
			l[fmt.Sprint(bytes, ", a kid more of the node ", i)] = y
		}
		l[bytes+", cut"] = nodes(x.Nodes[:len(x.Nodes)-1]...)
	}
	for name, x := range l {
		if got, is := first.Hash(x); is || got != (api.Hash{}) {
			t.Errorf("%s: %x, %t", name, got, is)
		}
	}
}

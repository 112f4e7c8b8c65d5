package run

import (
	"moidore/api"
	"moidore/term"
)

func terms() table {
	return table{
		api.OpMakeInt:   leaf(func(a int64) api.Node { return api.Node{Kind: api.TermInt, Int: a} }),
		api.OpMakeBytes: leaf(func(a string) api.Node { return api.Node{Kind: api.TermBytes, Bytes: a} }),
		api.OpMakeReal:  leaf(func(a uint64) api.Node { return api.Node{Kind: api.TermReal, Bits: a} }),
		api.OpMakeList:  above(api.TermList),
		api.OpMakeTag:   above(api.TermTag),
		api.OpAsInt:     has(api.TermInt, func(n api.Node) int64 { return n.Int }),
		api.OpAsBytes:   has(api.TermBytes, func(n api.Node) string { return n.Bytes }),
		api.OpAsReal:    has(api.TermReal, func(n api.Node) uint64 { return n.Bits }),
		api.OpKindOf:    one(func(t api.Term) int64 { return int64(t.Nodes[0].Kind) }),
		api.OpTagOf:     has(api.TermTag, func(n api.Node) int64 { return n.Int }),
		api.OpCount:     one(count),
		api.OpKid:       two(kid),
		api.OpTermSame:  two(term.Same),
	}
}

// leaf gives the term of a thing alone.
func leaf[T any](of func(T) api.Node) deed {
	return one(func(a T) api.Term { return term.Join(of(a)) })
}

// above gives a node of a kind, above the terms that it takes.
func above(k api.TermKind) deed {
	return func(m *machine, i api.Instr) {
		var kids []api.Term
		for _, x := range m.take(int(i.Num)) {
			kids = append(kids, x.(api.Term))
		}
		// A right list has no tag: its Bits are 0.
		t := term.Join(api.Node{Kind: k, Int: int64(i.Bits)}, kids...)
		must(term.Right(t))
		m.give(t)
	}
}

// has gives what the first node has, which must be of a kind.
func has[T any](k api.TermKind, of func(api.Node) T) deed {
	return one(func(t api.Term) T {
		must(t.Nodes[0].Kind == k)
		return of(t.Nodes[0])
	})
}

func count(t api.Term) int64 {
	n := t.Nodes[0]
	must(n.Kind != api.TermInt, n.Kind != api.TermBytes, n.Kind != api.TermReal)
	return int64(n.Kids)
}

func kid(t api.Term, n int64) api.Term {
	k, is := term.Kid(t, int(n))
	must(is)
	return k
}

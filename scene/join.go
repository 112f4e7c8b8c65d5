package scene

import (
	"moidore/api"
	"moidore/term"
)

func num(n int64) api.Term { return term.Join(api.Node{Kind: api.TermInt, Int: n}) }

func text(s string) api.Term { return term.Join(api.Node{Kind: api.TermBytes, Bytes: s}) }

func hash(h api.Hash) api.Term { return text(string(h[:])) }

func list(kids ...api.Term) api.Term { return term.Join(api.Node{Kind: api.TermList}, kids...) }

func tag(n int64, kids ...api.Term) api.Term {
	return term.Join(api.Node{Kind: api.TermTag, Int: n}, kids...)
}

// putter puts terms as the next kids of a list.
type putter func(more ...api.Term)

// row is the list of what is put of each thing. A thing may put nothing, so that it leaves no trace.
func row[T any](l []T, each func(x T, put putter)) api.Term {
	var kids []api.Term
	put := func(more ...api.Term) { kids = append(kids, more...) }
	for _, x := range l {
		each(x, put)
	}
	return list(kids...)
}

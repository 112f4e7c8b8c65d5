package term

import "moidore/api"

// disorder is what a term throws that is not in order.
const disorder = api.ErrShape

// lay is how the nodes of a term in order lie: of each one where what is below it ends, and how deep its term is.
type lay struct {
	nodes []api.Node
	ends  []int
	deep  []int
}

// laid is how t's nodes lie; it throws a t that is not in order.
func laid(t api.Term) lay {
	n := len(t.Nodes)
	l := lay{t.Nodes, make([]int, n), make([]int, n)}
	// From the last one on: so what stands behind a node lies already.
	for i := n - 1; i >= 0; i-- {
		l.set(i)
	}
	if n == 0 || l.ends[0] != n {
		panic(disorder)
	}
	return l
}

// set lets the node at i lie; all behind it lie already.
func (l lay) set(i int) {
	if l.nodes[i].Kids < 0 {
		panic(disorder)
	}
	at, deepest := i+1, 0
	for range l.nodes[i].Kids {
		if at == len(l.nodes) {
			panic(disorder)
		}
		at, deepest = l.ends[at], max(deepest, l.deep[at])
	}
	l.ends[i], l.deep[i] = at, deepest+1
}

// below is the node at i, and all that is below it.
func (l lay) below(i int) []api.Node { return l.nodes[i:l.ends[i]] }

// ask is what a term tells; instead, if one is thrown that is not in order.
func ask[T any](instead T, tell func() T) (told T) {
	defer func() {
		if recover() != nil {
			told = instead
		}
	}()
	return tell()
}

// inOrder says whether t is.
func inOrder(t api.Term) bool {
	return ask(false, func() bool {
		laid(t)
		return true
	})
}

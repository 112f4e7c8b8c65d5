package view

import (
	"maps"
	"slices"
	"strings"

	"moidore/api"
	"moidore/pack"
)

// entries is entries at work, by their refs. Its outputs are still those that were handed in: they are not written to, and go out as copies.
type entries map[api.Ref]api.Output

func (l entries) has(ref api.Ref) bool {
	_, there := l[ref]
	return there
}

// put puts entries; it throws one whose ref stands there.
func (l entries) put(more ...api.Entry) {
	for _, e := range more {
		must(!l.has(e.Ref))
		l[e.Ref] = e.Output
	}
}

// take takes entries away; it throws one that does not stand there just so.
func (l entries) take(some ...api.Entry) {
	for _, e := range some {
		o, there := l[e.Ref]
		must(there, same(o, e.Output))
		delete(l, e.Ref)
	}
}

// rising is the entries as they rise, in new memory.
func (l entries) rising() []api.Entry {
	var row []api.Entry
	for _, ref := range slices.SortedFunc(maps.Keys(l), order) {
		row = append(row, api.Entry{Ref: ref, Output: own(l[ref])})
	}
	return row
}

// order is -1, 0, 1, as a stands ahead of b, is b, stands behind it.
func order(a, b api.Ref) int {
	switch {
	case pack.Less(a, b):
		return -1
	case pack.Less(b, a):
		return 1
	}
	return 0
}

// same says whether two right outputs are one in all their parts. Of such there is one way to write a thing, so that their nodes are compared as they stand.
func same(a, b api.Output) bool {
	return a.Address == b.Address && a.Value.Coin == b.Value.Coin && slices.Equal(a.Value.Assets, b.Value.Assets) &&
		a.Datum == b.Datum && a.Hash == b.Hash && slices.Equal(a.Term.Nodes, b.Term.Nodes)
}

// own is an output, right or not, in new memory, its texts' bytes too.
func own(o api.Output) api.Output {
	var assets []api.Asset
	for _, a := range o.Value.Assets {
		a.Name = strings.Clone(a.Name)
		assets = append(assets, a)
	}
	var nodes []api.Node
	for _, n := range o.Term.Nodes {
		n.Bytes = strings.Clone(n.Bytes)
		nodes = append(nodes, n)
	}
	o.Value.Assets, o.Term.Nodes = assets, nodes
	return o
}

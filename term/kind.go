package term

import (
	"math"

	"moidore/api"
	"moidore/float"
)

// ofKinds says whether all nodes are of their kinds, and the keys of maps rise.
func (l lay) ofKinds() bool {
	asks := l.kinds()
	for i, n := range l.nodes {
		is := asks[n.Kind]
		if is == nil || !is(i) {
			return false
		}
	}
	return true
}

// kinds says of each kind whether the node at a place is of it: what it has may be so, and it has nothing else.
func (l lay) kinds() map[api.TermKind]func(int) bool {
	just := func(i int, has api.Node) bool {
		has.Kind = l.nodes[i].Kind
		return has == l.nodes[i]
	}
	return map[api.TermKind]func(int) bool{
		api.TermInt: func(i int) bool {
			return just(i, api.Node{Int: l.nodes[i].Int})
		},
		api.TermBytes: func(i int) bool {
			b := l.nodes[i].Bytes
			return len(b) <= api.MaxBlob && just(i, api.Node{Bytes: b})
		},
		api.TermReal: func(i int) bool {
			a := l.nodes[i].Bits
			return float.Right(a) && just(i, api.Node{Bits: a})
		},
		api.TermList: func(i int) bool {
			return just(i, api.Node{Kids: l.nodes[i].Kids})
		},
		api.TermTag: func(i int) bool {
			n := l.nodes[i]
			return n.Int >= 0 && n.Int <= math.MaxInt32 && just(i, api.Node{Int: n.Int, Kids: n.Kids})
		},
		api.TermMap: func(i int) bool {
			kids := l.nodes[i].Kids
			return kids%2 == 0 && just(i, api.Node{Kids: kids}) && l.rise(i)
		},
	}
}

// rise says whether the keys of the map at i rise, which has as many values.
func (l lay) rise(i int) bool {
	at := i + 1
	var last []api.Node // none at first: no key is that
	for range l.nodes[i].Kids / 2 {
		key := l.below(at)
		if last != nil && ahead(last, key) >= 0 {
			return false
		}
		last = key
		at = l.ends[l.ends[at]]
	}
	return true
}

package wots

import (
	"iter"

	"moidore/api"
	"moidore/sum"
)

// last is the place of a chain's end.
const last = 15

// link is a hash of a chain, and its place there.
type link struct {
	hash  api.Hash
	place byte
}

// step goes to the next link. The chain's number and the place are hashed with it, so that no link stands at two places.
func (l *link) step(number byte) {
	l.place++
	l.hash = sum.Of([]byte{number, l.place}, l.hash[:])
}

// chain is a chain at work: the link at which it stands.
type chain struct {
	link
	number byte
}

// upTo is the hash at a place, to which the chain goes on; it never goes back.
func (c *chain) upTo(place byte) api.Hash {
	for c.place < place {
		c.step(c.number)
	}
	return c.hash
}

// seeded is all chains of a seed, each at its first link.
func seeded(seed []byte) iter.Seq[chain] {
	return func(yield func(chain) bool) {
		for i := range byte(api.Chains) {
			if !yield(chain{link{hash: sum.Of(seed, []byte{i})}, i}) {
				return
			}
		}
	}
}

// signed is all chains of which a signature has the links, each at the place that its digit says.
func signed(l []api.Hash, d [api.Chains]byte) iter.Seq[chain] {
	return func(yield func(chain) bool) {
		for i, h := range l {
			if !yield(chain{link{h, d[i]}, byte(i)}) {
				return
			}
		}
	}
}

// ends is the hashes at which chains end.
func ends(chains iter.Seq[chain]) []api.Hash {
	var l []api.Hash
	for c := range chains {
		l = append(l, c.upTo(last))
	}
	return l
}

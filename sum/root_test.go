package sum

import (
	"crypto/sha256"
	"slices"
	"strconv"
	"testing"

	"moidore/api"
)

// row is n hashes, none like another one.
func row(n int) []api.Hash {
	l := make([]api.Hash, n)
	for i := range l {
		l[i] = api.Hash{byte(i + 1), byte((i + 1) >> 8)}
	}
	return l
}

// plain is the root in the words of the chapter, over the library's hashes.
func plain(l []api.Hash) api.Hash {
	switch {
	case len(l) == 0:
		return sha256.Sum256([]byte{0})
	case len(l) == 1:
		return sha256.Sum256(slices.Concat([]byte{1}, l[0][:]))
	}
	n := 1
	for 2*n < len(l) {
		n *= 2
	}
	first, others := plain(l[:n]), plain(l[n:])
	return sha256.Sum256(slices.Concat([]byte{2}, first[:], others[:]))
}

// P1.2: of no hashes, of one, of two, of three and more.
func TestRootKnownRows(t *testing.T) {
	for _, c := range []struct {
		many int
		want string
	}{
		{0, "6e340b9cffb37a989ca544e6bb780a2c78901d3fb33738768511a30617afa01d"},
		{1, "ad83447e1179d22a8a71304208e8521a49b5b65336695005404e498bd7fd7e6b"},
		{2, "a2d50a66d3f6b64211a96db2593cc5454a7d96dd601383ad3cbd6b7d80e9ed2e"},
		{3, "b54abcf11b81c1c3ee5291e4a2d0916024fa3e74770fb351f48ccadbe071adbd"},
		{4, "183249c697a68eadaaa969c089d378848409b2471da94453c1420376615109f3"},
		{5, "34c0bbd77ac068831dd97e7f93064e0c6118620516a89085d2c890eaeed95dd8"},
		{7, "a96fc71709c672ed930e387efbd84d2420d04c3f14b15d1b66ace7a057ee5de5"},
		{8, "ad372b18afbe6068891d1f30026c90223a13cddf75a52888c9bb1bc9e794dc02"},
		{9, "d80899407d2a25fb9f77e22e169630963127ce274519e39133ac0cb497d011ed"},
	} {
		wantHash(t, "the root of "+strconv.Itoa(c.many), Root(row(c.many)...), c.want)
	}
}

// P1.2: no hashes are one thing, however they are none.
func TestRootOfNone(t *testing.T) {
	if Root() != Of([]byte{0}) || Root([]api.Hash(nil)...) != Root() || Root([]api.Hash{}...) != Root() {
		t.Error("none")
	}
}

// P1.2: all lengths about powers of two.
func TestRootLengths(t *testing.T) {
	lengths := []int{254, 255, 256, 257, 258, 511, 512, 513, 1000, 1023, 1024, 1025}
	for n := range 140 {
		lengths = append(lengths, n)
	}
	for _, n := range lengths {
		if Root(row(n)...) != plain(row(n)) {
			t.Errorf("%d hashes", n)
		}
	}
}

// P1.2: the first ones are as many as the greatest power of two below how many there are.
func TestRootParts(t *testing.T) {
	for _, c := range []struct{ many, first int }{{2, 1}, {3, 2}, {4, 2}, {5, 4}, {6, 4}, {7, 4}, {8, 4}, {9, 8}, {16, 8}, {17, 16}, {31, 16}, {32, 16}, {33, 32}, {64, 32}, {65, 64}} {
		l := row(c.many)
		first, others := Root(l[:c.first]...), Root(l[c.first:]...)
		if Root(l...) != Of([]byte{2}, first[:], others[:]) {
			t.Errorf("%d hashes", c.many)
		}
	}
}

// P1.3: rows of unlike lengths, or with unlike hashes, have unlike roots.
func TestRootUnlikeRows(t *testing.T) {
	seen := map[api.Hash]bool{}
	take := func(what string, n int, l ...api.Hash) {
		h := Root(l...)
		if seen[h] {
			t.Errorf("%s: %d", what, n)
		}
		seen[h] = true
	}
	for n := range 70 {
		take("of noughts", n, make([]api.Hash, n)...)
	}
	l := row(40)
	for n := 1; n <= len(l); n++ {
		take("the first ones", n, l[:n]...)
		take("the last one twice", n, append(slices.Clone(l[:n]), l[n-1])...)
	}
	for i := range l {
		m := slices.Clone(l)
		m[i][31] ^= 1
		take("one bit", i, m...)
		if i > 0 {
			m = slices.Clone(l)
			m[i-1], m[i] = m[i], m[i-1]
			take("two in another order", i, m...)
		}
		if i+1 < len(l) {
			take("without one", i, slices.Delete(slices.Clone(l), i, i+1)...)
		}
	}
}

// P1.3: roots of parts of a row, as hashes of another one, don't make its root.
func TestRootOfRoots(t *testing.T) {
	l := row(4)
	a, b := Root(l[:2]...), Root(l[2:]...)
	whole := Root(l...)
	if Root(a, b) == whole || Root(whole) == whole || Root(Root(l[0]), Root(l[1])) == a || Root(l[0]) == l[0] || Root(Root()) == Root() || Root(api.Hash{}) == Root() {
		t.Error("a root of roots")
	}
}

// R3: hashes aren't changed, nor what stands behind them; nor are they kept.
func TestRootLeavesHashes(t *testing.T) {
	all := row(20)
	was := slices.Clone(all)
	h := Root(all[:13]...)
	if !slices.Equal(all, was) {
		t.Error("hashes are changed")
	}
	again := h
	clear(all)
	Root(row(5)...)
	if h != again || Root(was[:13]...) != h {
		t.Error("the root hangs on hashes behind the call")
	}
}

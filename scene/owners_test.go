package scene_test

import (
	"fmt"
	"slices"
	"testing"

	"moidore/api"
	"moidore/scene"
	"moidore/term"
	"moidore/wots"
)

// owners is the owners in the scene of a transaction without inputs.
func owners(t *testing.T, x api.Tx) []string {
	t.Helper()
	k, is := term.Kid(scene.Of(x, nil, api.PurposeSpend, 0), 7)
	if !is {
		t.Fatal("no owners")
	}
	var l []string
	told := listed{}
	for _, n := range k.Nodes[1:] {
		l, told = append(l, n.Bytes), append(told, n.Bytes)
	}
	wantTerm(t, "the owners are a list of bytes", k, termOf(told))
	return l
}

func wantOwners(t *testing.T, name string, x api.Tx, wanted ...string) {
	t.Helper()
	if got := owners(t, x); !slices.Equal(got, wanted) {
		t.Errorf("%s: %x, not %x", name, got, wanted)
	}
}

// P14.1: who signed the id, in the signatures' order, as often as they did.
func TestOwners(t *testing.T) {
	t.Parallel()
	x := small()
	wantOwners(t, "nobody", x)
	x.Signatures = []api.Signature{}
	wantOwners(t, "an empty list", x)
	for _, seeds := range [][]string{{"a"}, {"a", "b"}, {"b", "a"}, {"c", "a", "b"}, {"a", "a"}, {"b", "a", "b", "b"}, {""}} {
		var wanted []string
		for _, s := range seeds {
			wanted = append(wanted, key(s))
		}
		wantOwners(t, fmt.Sprint("of ", seeds), signed(x, seeds...), wanted...)
	}
}

// P14.1: 60 signatures, with as many owners.
func TestManyOwners(t *testing.T) {
	t.Parallel()
	var seeds, keys []string
	for i := range 60 {
		seeds = append(seeds, fmt.Sprint("the seed ", 60-i))
		keys = append(keys, key(seeds[i]))
	}
	wantOwners(t, "60", signed(small(), seeds...), keys...)
}

// P14.1: what is a signature of something else tells no owner of whom anybody has a seed: it stands there by the hash that wots.Owner tells of it and the id, and the others stay.
func TestOwnersOfSomethingElse(t *testing.T) {
	t.Parallel()
	x := signed(small(), "a", "b", "c")
	id := idOf(x)
	other := small()
	other.Body.Fee = 1
	for name, s := range map[string]api.Signature{
		"another transaction's": wots.Sign([]byte("b"), idOf(other)),
		"of noughts":            wots.Sign([]byte("b"), api.Hash{}),
		"nobody's":              plainSig(1, 35),
		"35 noughts":            {Chains: make([]api.Hash, 35)},
		"a link's bit turned":   turned(x.Signatures[1], 17),
		"links turned round":    {Chains: slices.Concat(x.Signatures[1].Chains[1:], x.Signatures[1].Chains[:1])},
	} {
		y := x
		y.Signatures = []api.Signature{x.Signatures[0], s, x.Signatures[2]}
		told, _ := wots.Owner(s, id)
		wantOwners(t, name, y, key("a"), plainHash(told), key("c"))
		if slices.Contains([]string{key("a"), key("b"), key("c")}, plainHash(told)) {
			t.Errorf("%s: it is somebody's", name)
		}
	}
}

// turned is a signature one bit of one of whose hashes is turned.
func turned(s api.Signature, at int) api.Signature {
	s.Chains = slices.Clone(s.Chains)
	s.Chains[at][at] ^= 4
	return s
}

// P14.1: owners are those of the transaction's own id: with whatever changes this, the same signatures tell others.
func TestOwnersOfTheId(t *testing.T) {
	t.Parallel()
	x := signed(small(), "a")
	for _, fee := range []int64{1, 2, 3, most} {
		y := x
		y.Body.Fee = fee
		told, _ := wots.Owner(x.Signatures[0], idOf(y))
		wantOwners(t, fmt.Sprint("the fee ", fee), y, plainHash(told))
		wantOwners(t, fmt.Sprint("the fee ", fee, ", signed"), signed(y, "a"), key("a"))
	}
}

// P14.1: a signature that has not 35 hashes is no right transaction's, so that there is no scene, wherever it stands.
func TestOwnersOfOthersMany(t *testing.T) {
	t.Parallel()
	for _, n := range []int{0, 1, 34, 36, 70} {
		for at := range 3 {
			x := signed(small(), "a", "b", "c")
			x.Signatures[at].Chains = plainSig(1, n).Chains
			wantNone(t, fmt.Sprint(n, " hashes at ", at), x, nil, api.PurposeSpend, 0)
		}
	}
}

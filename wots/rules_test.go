package wots

import (
	"bytes"
	"math/rand"
	"slices"
	"sync"
	"testing"

	"moidore/api"
)

// answers is all that the calls tell of what they are given.
type answers struct {
	key, owner api.Hash
	is         bool
	chains     []api.Hash
}

func ask(seed []byte, chains []api.Hash, m api.Hash) answers {
	a := answers{key: Key(seed), chains: Sign(seed, m).Chains}
	a.owner, a.is = Owner(api.Signature{Chains: chains}, m)
	return a
}

func (a answers) same(b answers) bool {
	return a.key == b.key && a.owner == b.owner && a.is == b.is && slices.Equal(a.chains, b.chains)
}

// R3, R4: seeds and signatures are as they were behind the calls, also in the room behind them; and each call answers alike each time, also of copies.
func TestArguments(t *testing.T) {
	r := rand.New(rand.NewSource(66))
	for range 300 {
		seed, m := anySeed(r), anyHash(r)
		n := []int{0, 1, 34, 35, 35, 35, 36}[r.Intn(7)]
		chains := make([]api.Hash, n)
		for i := range chains {
			chains[i] = anyHash(r)
		}
		wideSeed := append(bytes.Clone(seed), rising(100)...)
		wideChains := append(slices.Clone(chains), slices.Repeat([]api.Hash{full(7)}, 40)...)
		hadSeed, hadChains := bytes.Clone(wideSeed), slices.Clone(wideChains)
		first := ask(wideSeed[:len(seed)], wideChains[:n], m)
		if !bytes.Equal(wideSeed, hadSeed) || !slices.Equal(wideChains, hadChains) {
			t.Fatal("what was given was changed")
		}
		if !ask(wideSeed[:len(seed)], wideChains[:n], m).same(first) || !ask(seed, chains, m).same(first) {
			t.Fatal("answered in two ways")
		}
	}
}

// R3: what was handed out shares nothing with what was given, nor with what is handed out next; what is turned behind a call changes no answer.
func TestNewMemory(t *testing.T) {
	for _, m := range []api.Hash{full(0), full(0xff), of(rising(32)...)} {
		seed := rising(32)
		want := plainSign(seed, m)
		s := Sign(seed, m)
		again := Sign(seed, m)
		l := again.Chains[:cap(again.Chains)]
		for i := range l {
			l[i] = full(9)
		}
		clear(seed)
		if !slices.Equal(s.Chains, want) {
			t.Error("a signature that was handed out was changed")
		}
		seed = rising(32)
		wantSign(t, "behind another one that was turned", seed, m, want)
		key, _ := Owner(s, m)
		clear(s.Chains)
		if key != plainKey(seed) {
			t.Error("an owner that was handed out was changed")
		}
		wantKey(t, "behind a signature that was turned", seed, plainKey(seed))
		wantOwner(t, "behind a signature that was turned", want, m, plainKey(seed))
	}
}

// R1, R6: nil and empty ones, and long ones.
func TestEdges(t *testing.T) {
	if Key(nil) != Key([]byte{}) || Key(nil) != Key(rising(9)[:0]) {
		t.Error("empty seeds have two owners")
	}
	for _, m := range messages() {
		if a, b := Sign(nil, m), Sign([]byte{}, m); !slices.Equal(a.Chains, b.Chains) {
			t.Error("empty seeds sign in two ways")
		}
		wantOwner(t, "signed with no seed", Sign(nil, m).Chains, m, Key([]byte{}))
	}
	long := make([]byte, 1<<20)
	if got, is := Owner(Sign(long, full(3)), full(3)); got != Key(long) || !is || got != plainKey(long) {
		t.Error("a long seed")
	}
	wantNone(t, "many hashes", make([]api.Hash, 1<<20), full(3))
}

// R4: one thing is answered alike, whatever is answered beside it.
func TestAtOnce(t *testing.T) {
	var all sync.WaitGroup
	wrong := make([]int, 8)
	for g := range wrong {
		all.Go(func() {
			for n := range 20 {
				seed, m := rising(n+g), full(byte(16*n+g))
				if got, is := Owner(Sign(seed, m), m); got != Key(seed) || !is || got != plainKey(seed) {
					wrong[g]++
				}
			}
		})
	}
	all.Wait()
	if slices.Max(wrong) > 0 {
		t.Error(wrong)
	}
}

package sum

import (
	"bytes"
	"crypto/sha256"
	"encoding/hex"
	"math/big"
	"slices"
	"strconv"
	"strings"
	"sync"
	"testing"

	"moidore/api"
)

// mixed is n bytes, of which few are alike.
func mixed(n int) []byte {
	b := make([]byte, n)
	for i := range b {
		b[i] = byte(i*131 + i>>8*17 + 7)
	}
	return b
}

// library is the hash as the language's own library makes it.
func library(b []byte) api.Hash { return sha256.Sum256(b) }

func wantHash(t *testing.T, what string, got api.Hash, want string) {
	t.Helper()
	if g := hex.EncodeToString(got[:]); g != want {
		t.Errorf("%s: %s, not %s", what, g, want)
	}
}

// P1.1: the examples of the chapter, and rows about the ends of rows of 64.
func TestOfKnownRows(t *testing.T) {
	wantHash(t, "nothing", Of(), "e3b0c44298fc1c149afbf4c8996fb92427ae41e4649b934ca495991b7852b855")
	wantHash(t, "abc", Of([]byte("abc")), "ba7816bf8f01cfea414140de5dae2223b00361a396177a9cb410ff61f20015ad")
	for _, c := range []struct {
		long int
		want string
	}{
		{1, "ca978112ca1bbdcafac231b39a23dc4da786eff8147c4e72b9807785afee48bb"},
		{54, "a3f01b6939256127582ac8ae9fb47a382a244680806a3f613a118851c1ca1d47"},
		{55, "9f4390f8d30c2dd92ec9f095b65e2b9ae9b0a925a5258e241c9f1e910f734318"},
		{56, "b35439a4ac6f0948b6d6f9e3c6af0f5f590ce20f1bde7090ef7970686ec6738a"},
		{57, "f13b2d724659eb3bf47f2dd6af1accc87b81f09f59f2b75e5c0bed6589dfe8c6"},
		{62, "f506898cc7c2e092f9eb9fadae7ba50383f5b46a2a4fe5597dbb553a78981268"},
		{63, "7d3e74a05d7db15bce4ad9ec0658ea98e3f06eeecf16b4c6fff2da457ddc2f34"},
		{64, "ffe054fe7ae0cb6dc65c3af9b61d5209f439851db43d0ba5997337df154668eb"},
		{65, "635361c48bb9eab14198e76ea8ab7f1a41685d6ad62aa9146d301d4f17eb0ae0"},
		{118, "879dc4f05b19ebc3b037f4683633df1332b054cf52fa372d323c421cb893a2aa"},
		{119, "31eba51c313a5c08226adf18d4a359cfdfd8d2e816b13f4af952f7ea6584dcfb"},
		{120, "2f3d335432c70b580af0e8e1b3674a7c020d683aa5f73aaaedfdc55af904c21c"},
		{127, "c57e9278af78fa3cab38667bef4ce29d783787a2f731d4e12200270f0c32320a"},
		{128, "6836cf13bac400e9105071cd6af47084dfacad4e5e302c94bfed24e013afb73e"},
		{129, "c12cb024a2e5551cca0e08fce8f1c5e314555cc3fef6329ee994a3db752166ae"},
		{183, "a88d44a2940a3a2fc363304926d263bf271afb562bab5640cb0e81f5e84320a3"},
		{184, "8b1b7967cef5b2f2036b25c6a393e37bd774a7cbde7be79bb443d26bf0a90c86"},
	} {
		wantHash(t, strconv.Itoa(c.long)+" times a", Of([]byte(strings.Repeat("a", c.long))), c.want)
	}
}

// P1.1: every length up to some rows of 64, of all bytes there are.
func TestOfLengths(t *testing.T) {
	for n := range 600 {
		for _, b := range [][]byte{mixed(n), make([]byte, n), bytes.Repeat([]byte{0xff}, n)} {
			if Of(b) != library(b) {
				t.Errorf("%d bytes", n)
			}
		}
	}
	for _, n := range []int{4095, 4096, 4097, 65535, 65536, 1000003} {
		if Of(mixed(n)) != library(mixed(n)) {
			t.Errorf("%d bytes", n)
		}
	}
}

// P1.1: the number of bits stands in 8 bytes, not in 4.
func TestOfMoreBitsThan32Tell(t *testing.T) {
	part := mixed(1 << 20)
	parts := make([][]byte, 513)
	whole := sha256.New()
	for i := range parts {
		parts[i] = part
		whole.Write(part)
	}
	if got := Of(parts...); !bytes.Equal(got[:], whole.Sum(nil)) {
		t.Error("513 times 2^20 bytes")
	}
}

// P1.1: no part, empty parts, nil parts.
func TestOfEmptyParts(t *testing.T) {
	none, b := Of(), mixed(70)
	for i, parts := range [][][]byte{nil, {}, {nil}, {{}}, {nil, nil}, {{}, nil, {}}, {b[:0]}} {
		if Of(parts...) != none || none != library(nil) {
			t.Errorf("nothing, the %d-th", i)
		}
	}
	for i, parts := range [][][]byte{{b, nil}, {nil, b}, {{}, b, {}}, {b[:64], nil, b[64:]}, {nil, b[:63], {}, nil, b[63:], nil}} {
		if Of(parts...) != library(b) {
			t.Errorf("70 bytes, the %d-th", i)
		}
	}
}

// P1.1, P1.3: how bytes are parted plays no part.
func TestOfHoweverParted(t *testing.T) {
	for _, n := range []int{1, 2, 3, 55, 56, 63, 64, 65, 119, 120, 128, 130, 200} {
		b := mixed(n)
		want := library(b)
		for i := range n + 1 {
			if Of(b[:i], b[i:]) != want {
				t.Errorf("%d bytes, parted at %d", n, i)
			}
			for j := i; j <= n; j++ {
				if Of(b[:i], b[i:j], b[j:]) != want {
					t.Errorf("%d bytes, parted at %d and %d", n, i, j)
				}
			}
		}
		for step := 1; step <= n; step++ {
			if Of(slices.Collect(slices.Chunk(b, step))...) != want {
				t.Errorf("%d bytes, %d a part", n, step)
			}
		}
	}
}

// P1.1: parts stand one behind the other, in their order.
func TestOfOrder(t *testing.T) {
	if Of([]byte("a"), []byte("bc")) != Of([]byte("abc")) || Of([]byte("bc"), []byte("a")) != Of([]byte("bca")) || Of([]byte("a"), []byte("bc")) == Of([]byte("bc"), []byte("a")) {
		t.Error("the order of parts")
	}
}

// P1.1, P1.3: each byte, each bit, and the length play a part.
func TestOfUnlikeRows(t *testing.T) {
	seen := map[api.Hash]int{}
	take := func(what int, h api.Hash) {
		if was, is := seen[h]; is {
			t.Errorf("%d and %d have one hash", was, what)
		}
		seen[h] = what
	}
	for n := range 200 {
		take(n, Of(make([]byte, n)))
	}
	b := mixed(130)
	for i := range 8 * len(b) {
		b[i/8] ^= 1 << (i % 8)
		take(1000+i, Of(b))
		b[i/8] ^= 1 << (i % 8)
	}
	filled := append([]byte("abc"), endMark)
	filled = append(filled, make([]byte, 59)...)
	take(5000, Of([]byte("abc")))
	take(5001, Of(filled))
	take(5002, Of(append(filled, 24)))
}

// The tables are what the chapter says of primes: the bits of a root of p are those of the whole root of p times a power of 2.
func TestTables(t *testing.T) {
	var primes []int64
	for n := int64(2); len(primes) < len(cubes); n++ {
		if big.NewInt(n).ProbablyPrime(0) {
			primes = append(primes, n)
		}
	}
	for i, p := range primes {
		if i < len(start) {
			square := new(big.Int).Sqrt(new(big.Int).Lsh(big.NewInt(p), 64))
			if uint32(square.Uint64()) != start[i] {
				t.Errorf("the square root of %d", p)
			}
		}
		if uint32(cubeRoot(new(big.Int).Lsh(big.NewInt(p), 96)).Uint64()) != cubes[i] {
			t.Errorf("the cube root of %d", p)
		}
	}
}

// cubeRoot is the whole part of the cube root of n.
func cubeRoot(n *big.Int) *big.Int {
	x := new(big.Int)
	for i := n.BitLen()/3 + 1; i >= 0; i-- {
		y := new(big.Int).SetBit(x, i, 1)
		if new(big.Int).Exp(y, big.NewInt(3), nil).Cmp(n) <= 0 {
			x = y
		}
	}
	return x
}

// R3: parts aren't changed, nor the bytes behind them; nor are they kept.
func TestOfLeavesParts(t *testing.T) {
	b := mixed(300)
	parts := [][]byte{b[:10], b[10:100], nil, b[100:164], b[5:60]}
	was, had := bytes.Clone(b), slices.Clone(parts)
	h := Of(parts...)
	if !bytes.Equal(b, was) {
		t.Error("bytes are changed")
	}
	for i := range parts {
		if len(parts[i]) != len(had[i]) || cap(parts[i]) != cap(had[i]) || len(had[i]) > 0 && &parts[i][0] != &had[i][0] {
			t.Errorf("the %d-th part is another one", i)
		}
	}
	again := h
	clear(b)
	clear(parts)
	Of(mixed(99))
	if h != again || h != library(slices.Concat(was[:10], was[10:100], was[100:164], was[5:60])) {
		t.Error("the hash hangs on parts behind the call")
	}
}

// R4: one thing is answered alike each time, whatever is answered beside it.
func TestOfAlikeAtOnce(t *testing.T) {
	var all sync.WaitGroup
	wrong := make([]int, 8)
	for g := range wrong {
		all.Go(func() {
			for n := range 200 {
				if Of(mixed(n+g)) != library(mixed(n+g)) {
					wrong[g]++
				}
			}
		})
	}
	all.Wait()
	if slices.Max(wrong) > 0 {
		t.Error(wrong)
	}
}

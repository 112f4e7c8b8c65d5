package wots

import (
	"bytes"
	"math/rand"
	"slices"
	"strconv"
	"testing"

	"moidore/api"
)

// seeds are the seeds that are asked for by name.
func seeds() map[string][]byte {
	return map[string][]byte{
		"nil":         nil,
		"empty":       {},
		"a nought":    {0},
		"one byte":    {0xff},
		"two bytes":   {0, 34},
		"31 bytes":    rising(31),
		"32 bytes":    rising(32),
		"32 noughts":  make([]byte, 32),
		"54 bytes":    rising(54),
		"55 bytes":    rising(55),
		"63 bytes":    rising(63),
		"64 bytes":    rising(64),
		"1000 bytes":  rising(1000),
		"70000 bytes": rising(70000),
	}
}

// messages are the messages that are asked for by name.
func messages() []api.Hash {
	return append(eachOnce(), full(0), full(0xff), full(0x11), full(0xee), full(0x0f), full(0xf0), of(rising(32)...), of(0x80), of(1))
}

// P6.1: seeds and messages, held against what is written elsewhere: the owner, and the hash of what is signed.
func TestKnown(t *testing.T) {
	for _, c := range []struct {
		seed                     []byte
		key, none, all, rise, be string
	}{
		{nil, "1cce11a5b9f704f4b3b158b69796cae76ba78966c928923fc4d143b8c80bd12c",
			"603deebef8e420a83c50784c258423036564318c4c6e13f4ea43f3907270bf7f",
			"f01835243b65e3b75325fbb888fe62d92faffcbe851b7538ad42b09d67cbab71",
			"7e97da6da31efd17e91507a342f3e780cec6b445fb304ffac06485ff053bbe80",
			"669908bc75f5c973107178c419368b1cd608194129c84456708b0fccf1247cd1"},
		{[]byte{0}, "c4015e978ca88cd999a4427fd58f6afdfe5274ef49245c9d0abd052a6aeecb4c",
			"5a9095b572508e2992644c1ece52737949d30b0d0e663f2466b22d2fe782119b",
			"d655c100615600611e252ddfad8dbecb023dc4e75299d7dfba19b47498b2a539",
			"34c056fd0a9b668cd00d448df33de07bd7d4d6b24c9812f98aca5e8195dc841f",
			"940c8c0f394c55241fccc940b5e8d054e9ab587cb5f3fa5271eddbc5552260c9"},
		{rising(32), "6b6b9f5aaedc5357fd7655bbce71609fbd038e7dd79325d69cf551bc96f5027a",
			"574822c64182202e7a5b2ec994198ede7bebc8517674fd1dc4ce6ec13090c96c",
			"09494ab69c756536c95828d6294c06c643f752af58e233911809e285526b5a8a",
			"7531de2e63c6bc0a6b76d48928f5232266e7fe81667798e09e9aabdb19882e9f",
			"006c08da3c2ae13cdf14bb98cf7b2dc627ba093bf24e4e61194335bc6e04621c"},
		{rising(1000), "da10d0dae983762b8ca206e08ec19445b839de51857307b2cf4c5ea208fd90ba",
			"481f9352d4c5f69232c8e9812b8013b7b337eaf977b5b1f6f41b2ede8544a35d",
			"849f34a5ebae07ff65c2c099e4b2baaf39c95518270de709653fbe74fcef3089",
			"2f599f9dd4904b8431a1bb5fc51c65f755423f252233e83b0d9392e66696b4a7",
			"b3f36737358883ff21805554e45db1084019d1f980f317be954c8a947e945fe8"},
	} {
		what := strconv.Itoa(len(c.seed)) + " bytes"
		wantKey(t, what, c.seed, hashOf(c.key))
		for m, want := range map[api.Hash]string{full(0): c.none, full(0xff): c.all, of(rising(32)...): c.rise, eachOnce()[2]: c.be} {
			if got := plainOwner(Sign(c.seed, m).Chains); text(got) != want {
				t.Errorf("Sign, %s: %s: %s, not %s", what, text(m), text(got), want)
			}
		}
	}
}

// P6.1: Key and Sign of seeds, link by link.
func TestSeeds(t *testing.T) {
	for name, seed := range seeds() {
		wantKey(t, name, seed, plainKey(seed))
		l := messages()
		if len(seed) > 1000 {
			l = l[:2]
		}
		for _, m := range l {
			wantSign(t, name, seed, m, plainSign(seed, m))
		}
	}
}

// P6.1: seeds and messages by chance.
func TestAnySeeds(t *testing.T) {
	r := rand.New(rand.NewSource(61))
	for range 300 {
		seed, m := anySeed(r), anyHash(r)
		wantKey(t, "by chance", seed, plainKey(seed))
		wantSign(t, "by chance", seed, m, plainSign(seed, m))
	}
}

// P6.1: at each place of a chain the hash that the digit says, for each of the message's own digits.
func TestPlaces(t *testing.T) {
	seed := rising(32)
	for i := range 32 {
		l := plainChain(seed, i)
		for place := range 16 {
			for _, others := range []api.Hash{full(0), full(0xff), of(rising(32)...)} {
				m, shift := others, 4*(1-i%2)
				m[i/2] = m[i/2]&^(15<<shift) | byte(place)<<shift
				if got := Sign(seed, m).Chains; got[i] != l[place] {
					t.Errorf("chain %d, place %d: %s", i, place, text(got[i]))
				}
			}
		}
	}
}

// leaving is a message whose own digits leave n in all.
func leaving(n int) api.Hash {
	h := full(0xff)
	for i := range 16 {
		high := min(n, 15)
		low := min(n-high, 15)
		h[i] -= byte(high<<4 | low)
		n -= high + low
	}
	return h
}

// P6.1: the last three digits, of all that the others may leave.
func TestLeft(t *testing.T) {
	seed := rising(5)
	l := [][]api.Hash{plainChain(seed, 32), plainChain(seed, 33), plainChain(seed, 34)}
	for n := range 481 {
		m := leaving(n)
		d, want := digits(m), []byte{byte(n / 256), byte(n / 16 % 16), byte(n % 16)}
		if !bytes.Equal(d[32:], want) {
			t.Fatalf("%d is left: %d, not %d", n, d[32:], want)
		}
		for i, h := range Sign(seed, m).Chains[32:] {
			if h != l[i][want[i]] {
				t.Fatalf("%d is left: chain %d: %s", n, 32+i, text(h))
			}
		}
	}
}

// numbers is bytes as numbers.
func numbers(d [35]byte) []int {
	var l []int
	for _, b := range d {
		l = append(l, int(b))
	}
	return l
}

// P6.1: the digits; of the messages of the chapter's example too.
func TestDigits(t *testing.T) {
	for m, want := range map[api.Hash][]int{
		full(0):           append(make([]int, 32), 1, 14, 0),
		full(0xff):        append(slices.Repeat([]int{15}, 32), 0, 0, 0),
		full(0x0f):        append(slices.Repeat([]int{0, 15}, 16), 0, 15, 0),
		full(0xf0):        append(slices.Repeat([]int{15, 0}, 16), 0, 15, 0),
		full(0x77):        append(slices.Repeat([]int{7}, 32), 1, 0, 0),
		of(0x10):          append(append([]int{1}, make([]int, 31)...), 1, 13, 15),
		of(1):             append(append([]int{0, 1}, make([]int, 30)...), 1, 13, 15),
		of(rising(32)...): {0, 0, 0, 1, 0, 2, 0, 3, 0, 4, 0, 5, 0, 6, 0, 7, 0, 8, 0, 9, 0, 10, 0, 11, 0, 12, 0, 13, 0, 14, 0, 15, 1, 6, 8},
		eachOnce()[0]:     {0, 0, 1, 1, 2, 2, 3, 3, 4, 4, 5, 5, 6, 6, 7, 7, 8, 8, 9, 9, 10, 10, 11, 11, 12, 12, 13, 13, 14, 14, 15, 15, 0, 15, 0},
		eachOnce()[2]:     {0, 1, 2, 3, 4, 5, 6, 7, 8, 9, 10, 11, 12, 13, 14, 15, 15, 14, 13, 12, 11, 10, 9, 8, 7, 6, 5, 4, 3, 2, 1, 0, 0, 15, 0},
	} {
		if got := numbers(digits(m)); !slices.Equal(got, want) || !slices.Equal(plainDigits(m), want) {
			t.Errorf("%s: %d, not %d", text(m), got, want)
		}
	}
	r := rand.New(rand.NewSource(62))
	for range 20000 {
		if m := anyHash(r); !slices.Equal(numbers(digits(m)), plainDigits(m)) {
			t.Fatalf("%s: %d", text(m), digits(m))
		}
	}
}

// P6.1: messages that differ in their last 16 bytes alone are signed alike; each other bit is told by its digit, and by what is left.
func TestBits(t *testing.T) {
	seed := rising(32)
	for _, m := range []api.Hash{full(0), full(0xff), of(rising(32)...)} {
		was := Sign(seed, m).Chains
		for bit := range 256 {
			got := Sign(seed, turned(m, bit)).Chains
			if bit >= 128 {
				if !slices.Equal(got, was) {
					t.Errorf("%s: bit %d plays a part", text(m), bit)
				}
				continue
			}
			digit := bit / 4
			if digit%2 == 0 {
				digit++
			} else {
				digit--
			}
			for i := range 32 {
				if is := got[i] == was[i]; is != (i != digit) {
					t.Errorf("%s: bit %d, chain %d: alike %v", text(m), bit, i, is)
				}
			}
			if slices.Equal(got[32:], was[32:]) {
				t.Errorf("%s: bit %d: one is left as of the other", text(m), bit)
			}
		}
	}
	if last := of(append(make([]byte, 16), rising(16)...)...); !slices.Equal(Sign(seed, last).Chains, Sign(seed, full(0)).Chains) {
		t.Error("the last 16 bytes play a part")
	}
}

// P6.1: no two hashes of a seed's chains are alike, nor two seeds' owners.
func TestUnlike(t *testing.T) {
	hashes := map[api.Hash]bool{}
	for place := range 16 {
		for i, h := range Sign(rising(3), full(byte(place*17))).Chains {
			if i < 32 && hashes[h] {
				t.Errorf("chain %d, place %d: a hash that was there", i, place)
			}
			hashes[h] = true
		}
	}
	owners := map[api.Hash]string{}
	for name, seed := range seeds() {
		if was, is := owners[Key(seed)]; is && len(seed) > 0 {
			t.Errorf("%s has the owner of %s", name, was)
		}
		owners[Key(seed)] = name
	}
}

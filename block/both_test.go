package block

import (
	"bytes"
	"math/rand"
	"slices"
	"testing"

	"moidore/api"
	"moidore/sum"
	"moidore/wire"
)

// P12.3: what is put is got, for blocks of many sorts; their ids and roots are those of their bytes.
func TestBoth(t *testing.T) {
	t.Parallel()
	r := rand.New(rand.NewSource(1202))
	many := map[int]int{}
	for range 300 {
		x := anyBlock(r)
		many[len(x.Txs)]++
		wantBlock(t, "any one", x, true)
		wantRoot(t, "any one", x.Txs, true)
		id, is := Id(x.Header)
		wantHash(t, "any one, the id", id, is, sum.Of(headerBytes(x.Header)), true)
		b, is := Put(x)
		if y, got := Get(b); !is || !got || !same(x, y) {
			t.Fatalf("%s, %t, %t, not %s", short(y), is, got, short(x))
		}
	}
	if many[0] == 0 || many[1] == 0 || many[30] == 0 {
		t.Errorf("none of 0, 1, 30 transactions: %v", many)
	}
}

// P12.3: what is put is got, for headers, some of them one behind the other.
func TestBothHeaders(t *testing.T) {
	t.Parallel()
	r := rand.New(rand.NewSource(1203))
	for range 2000 {
		l := make([]api.Header, r.Intn(4))
		b, e := bytesPut(func(w *wire.Writer) {
			for i := range l {
				l[i] = anyHeader(r)
				PutHeader(w, l[i])
			}
		})
		x := wire.NewReader(b)
		for i := range l {
			if got := GetHeader(x); got != l[i] {
				t.Errorf("%s, not %s", short(got), short(l[i]))
			}
		}
		if !x.End() || e != api.OK || len(b) != 84*len(l) {
			t.Errorf("%d bytes of %d headers, %d", len(b), len(l), e)
		}
	}
}

// P12.3: headers that are not the same have other ids.
func TestOneHeader(t *testing.T) {
	t.Parallel()
	r := rand.New(rand.NewSource(1204))
	l := []api.Header{{}, someHeader(), {Height: 1}, {Slot: 1}, {Nonce: 1}, {Parent: h(1, 0)}, {Root: h(1, 0)}}
	for i := range someHeaderBytes() {
		for bit := range 8 {
			b := someHeaderBytes()
			b[i] ^= 1 << bit
			if x := headerOf(b); isHeader(x) {
				l = append(l, x)
			}
		}
	}
	for range 500 {
		l = append(l, anyHeader(r))
	}
	seen := map[api.Hash]api.Header{}
	for _, x := range l {
		id, is := Id(x)
		if y, there := seen[id]; !is || there && x != y {
			t.Errorf("one id, %t: %s, %s", is, short(x), short(y))
		}
		seen[id] = x
	}
	if len(seen) < 600 {
		t.Errorf("just %d headers", len(seen))
	}
}

// P12.3: rows of transactions that are not the same have other roots: also where just a signature or a flag, which play no part in an id, or just the order is another one.
func TestOneRow(t *testing.T) {
	t.Parallel()
	x, not, unsigned, signed := full(), full(), full(), full()
	not.Valid = false
	unsigned.Signatures = nil
	signed.Signatures[0].Chains[34][31]++
	rows := [][]api.Tx{{}, row(30), row(29), row(30)[1:], {{}, {}}, {{}, {}, {}}}
	for _, a := range []api.Tx{{}, x, not, unsigned, signed} {
		rows = append(rows, []api.Tx{a})
		for _, b := range []api.Tx{{}, x, not, unsigned, signed} {
			rows = append(rows, []api.Tx{a, b}, []api.Tx{a, b, a}, []api.Tx{a, b, b}, []api.Tx{b, b, a})
		}
	}
	seen := map[api.Hash][]api.Tx{}
	for _, l := range rows {
		root, is := Root(l...)
		if m, there := seen[root]; !is || there && !same(l, m) {
			t.Errorf("one root, %t: %s, %s", is, short(l), short(m))
		}
		seen[root] = l
	}
	if len(seen) < 60 {
		t.Errorf("just %d rows", len(seen))
	}
}

// P12.3: of blocks that are not the same the bytes of none begin with another one's.
func TestOneWay(t *testing.T) {
	t.Parallel()
	r := rand.New(rand.NewSource(1205))
	l := []api.Block{{}, {Txs: make([]api.Tx, 1)}, {Txs: make([]api.Tx, 2)}, {Header: someHeader()}, someBlock()}
	for range 150 {
		l = append(l, anyBlock(r), api.Block{Txs: row(r.Intn(31))})
	}
	var put [][]byte
	for _, x := range l {
		b, _ := Put(x)
		put = append(put, b)
	}
	for i, b := range put {
		for j, c := range put {
			if bytes.HasPrefix(b, c) && !same(l[i], l[j]) {
				t.Errorf("%s and %s", short(l[i]), short(l[j]))
			}
		}
	}
}

// P12.1: the root plays no part in whether a block is right, nor do its transactions in its id.
func TestApart(t *testing.T) {
	t.Parallel()
	x := someBlock()
	id, _ := Id(x.Header)
	root, _ := Root(x.Txs...)
	wantBlock(t, "another root", x, true)
	x.Txs = slices.Clone(x.Txs[:1])
	again, is := Id(x.Header)
	wantHash(t, "other transactions, the id", again, is, id, true)
	x.Header.Root = root
	other, is := Id(x.Header)
	if other == id || !is {
		t.Errorf("another root, and the id is %x, %t", other, is)
	}
	wantBlock(t, "the root of others", x, true)
}

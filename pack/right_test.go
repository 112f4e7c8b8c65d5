package pack

import (
	"math/rand"
	"slices"
	"strconv"
	"testing"

	"moidore/api"
)

// P7.1: one ref stands ahead of another one by its Tx, byte by byte, then by its Place.
func TestLess(t *testing.T) {
	row := []api.Ref{
		ref(0, 0, least), ref(0, 0, -1), ref(0, 0, 0), ref(0, 0, 1), ref(0, 0, 30), ref(0, 0, 31), ref(0, 0, 255), ref(0, 0, 256),
		ref(0, 0, 65535), ref(0, 0, 65536), ref(0, 0, 1<<32), ref(0, 0, most),
		ref(0, 1, 0), ref(0, 127, 5), ref(0, 128, -1), ref(0, 128, 4), ref(0, 255, 0),
		ref(1, 0, 30), ref(1, 1, 0), ref(1, 1, 65537), ref(2, 0, -1), ref(127, 255, 9), ref(128, 0, 0), ref(255, 0, 0), ref(255, 255, most),
	}
	for i, a := range row {
		for k, b := range row {
			if Less(a, b) != (i < k) {
				t.Errorf("Less of %d and %d: %v", i, k, Less(a, b))
			}
		}
	}
}

// P7.1: each byte of Tx plays a part, and the ones ahead play it first.
func TestLessByBytes(t *testing.T) {
	for i := range 32 {
		a, b := ref(0, 0, 30), ref(0, 0, 0)
		b.Tx[i] = 1
		if !Less(a, b) || Less(b, a) {
			t.Errorf("the byte %d", i)
		}
		for k := i + 1; k < 32; k++ {
			c := a
			c.Tx[k] = 255
			if Less(b, c) || !Less(c, b) {
				t.Errorf("the bytes %d and %d", i, k)
			}
		}
	}
	r := rand.New(rand.NewSource(701))
	for range 20000 {
		a, b := anyRef(r), anyRef(r)
		if Less(a, b) != stands(a, b) || Less(a, a) {
			t.Errorf("Less of %v and %v: %v", a, b, Less(a, b))
		}
	}
}

// P7.1, P7.2: what is right, and what is not, for each reason that the chapter names. (Put spoils just where a thing is not right.)
func TestRight(t *testing.T) {
	for name, o := range rightOutputs() {
		if !RightOutput(o) {
			t.Errorf("an output: %s", name)
		}
	}
	for name, o := range wrongOutputs() {
		if RightOutput(o) {
			t.Errorf("an output is right: %s", name)
		}
	}
	for name, l := range rightEntries() {
		if !RightEntries(l) {
			t.Errorf("entries: %s", name)
		}
	}
	for name, l := range wrongEntries() {
		if RightEntries(l) {
			t.Errorf("entries are right: %s", name)
		}
	}
	for name, d := range rightDiffs() {
		if !RightDiff(d) {
			t.Errorf("a diff: %s", name)
		}
	}
	for name, d := range wrongDiffs() {
		if RightDiff(d) {
			t.Errorf("a diff is right: %s", name)
		}
	}
}

// P7.1: each Datum, also those that are none, with each Hash and each Term.
func TestDatums(t *testing.T) {
	hashes := []api.Hash{{}, h(1, 0), h(0, 1), h(255, 255)}
	terms := []struct {
		t               api.Term
		isNone, isRight bool
	}{
		{nodes(), true, false}, {api.Term{Nodes: []api.Node{}}, true, false}, {num(0), false, true}, {list(num(1), text("a")), false, true},
		{nested(16), false, true}, {nested(17), false, false}, {nodes(api.Node{}), false, false}, {pairs(num(1)), false, false}, {list(nums(100)...), false, false},
	}
	for _, datum := range append(datums(), 0, 1, 2) {
		for _, x := range hashes {
			for i, y := range terms {
				noHash := x == api.Hash{}
				want := datum == 0 && noHash && y.isNone || datum == 1 && y.isNone || datum == 2 && noHash && y.isRight
				for _, to := range []api.Address{{}, {Program: true}, {Hash: h(1, 1)}, {Program: true, Hash: h(1, 1)}} {
					o := api.Output{Address: to, Value: val(3), Datum: datum, Hash: x, Term: y.t}
					if RightOutput(o) != want {
						t.Errorf("the datum %d, the hash %x, the term %d: %v", datum, x, i, !want)
					}
					o.Value.Coin = -1
					if RightOutput(o) {
						t.Errorf("the datum %d, the hash %x, the term %d, a coin below 0", datum, x, i)
					}
				}
			}
		}
	}
}

// P7.1: a ref is right, if its Place is from 0 to 30; entries' refs are asked, and a diff's.
func TestPlaces(t *testing.T) {
	all := places()
	for n := range 40 {
		all = append(all, n)
	}
	for _, n := range all {
		want := n >= 0 && n <= 30
		l := entries(at(ref(1, 1, n)))
		if RightEntries(l) != want || RightDiff(api.Diff{Spent: l}) != want || RightDiff(api.Diff{Made: l}) != want {
			t.Errorf("the place %d", n)
		}
	}
}

// P7.1: entries rise; of a right row all others of the same entries are none.
func TestOneRow(t *testing.T) {
	row := entries(at(ref(1, 1, 0)), at(ref(1, 1, 1)), at(ref(1, 2, 0)), at(ref(2, 0, 0)))
	seen := 0
	var mixed func(l []api.Entry, left []api.Entry)
	mixed = func(l []api.Entry, left []api.Entry) {
		if len(left) == 0 && RightEntries(l) {
			seen++
		}
		for i := range left {
			mixed(append(slices.Clone(l), left[i]), slices.Concat(left[:i], left[i+1:]))
		}
	}
	mixed(nil, row)
	if seen != 1 || !RightEntries(row) {
		t.Errorf("%d right rows", seen)
	}
}

// P7.1: a ref of each place of one row in each place of the other.
func TestApart(t *testing.T) {
	spent := entries(at(ref(2, 0, 0)), at(ref(4, 0, 0)), at(ref(6, 0, 0)), at(ref(8, 0, 0)))
	for first := range 10 {
		for last := first; last < 10; last++ {
			var made []api.Entry
			want := true
			for n := first; n <= last; n++ {
				made = append(made, entry(ref(byte(n), 0, 0), plainOut(val(int64(n)))))
				want = want && (n == 0 || n%2 == 1)
			}
			if RightDiff(api.Diff{Spent: spent, Made: made}) != want || RightDiff(api.Diff{Spent: made, Made: spent}) != want {
				t.Errorf("from %d to %d: %v", first, last, !want)
			}
		}
	}
}

// P7.1: things that are put together by chance, held against the chapter's words.
func TestRightByChance(t *testing.T) {
	r := rand.New(rand.NewSource(702))
	count := map[string]int{}
	for range 3000 {
		l := anyEntries(r)
		if len(l) > 1 && r.Intn(2) == 0 {
			i, k := r.Intn(len(l)), r.Intn(len(l))
			l[i].Ref = l[k].Ref
		}
		if len(l) > 0 && r.Intn(4) == 0 {
			l[r.Intn(len(l))].Ref.Place = r.Intn(64) - 16
		}
		d := api.Diff{Spent: l, Made: anyEntries(r)[:0], Fees: int64(r.Intn(6)) - 1, Forfeits: int64(r.Intn(6)) - 1, Mint: anyTotals(r)}
		if n := r.Intn(len(l) + 1); r.Intn(2) == 0 {
			d.Spent, d.Made = l[:n], l[n:]
		} else {
			d.Made = slices.Clone(l[n:])
		}
		if RightEntries(l) != areEntries(l) || RightDiff(d) != isDiff(d) {
			t.Fatalf("%s: %v, %v", short(told(d)), RightEntries(l), RightDiff(d))
		}
		count["entries "+strconv.FormatBool(areEntries(l))]++
		count["a diff "+strconv.FormatBool(isDiff(d))]++
	}
	for _, kind := range []string{"entries true", "entries false", "a diff true", "a diff false"} {
		if count[kind] < 100 {
			t.Errorf("%s: just %d times", kind, count[kind])
		}
	}
}

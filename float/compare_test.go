package float

import (
	"cmp"
	"math/rand"
	"slices"
	"testing"

	"moidore/api"
)

// inOrder is numbers, each ahead of the next one, api.NaN behind all.
func inOrder() []uint64 {
	up := sizes()
	down := slices.Clone(up)
	slices.Reverse(down)
	for i := range down {
		down[i] |= minus
	}
	return slices.Concat(down, up, []uint64{api.NaN})
}

func wantOrder(t *testing.T, a, b uint64, want int) {
	t.Helper()
	if got := Order(a, b); got != want {
		t.Errorf("Order of %s and %s: %d, not %d", bits(a), bits(b), got, want)
	}
}

func wantCompared(t *testing.T, a, b uint64, less, same bool) {
	t.Helper()
	if got := Less(a, b); got != less {
		t.Errorf("Less of %s and %s: %v", bits(a), bits(b), got)
	}
	if got := Same(a, b); got != same {
		t.Errorf("Same of %s and %s: %v", bits(a), bits(b), got)
	}
}

// P3.3: each two of numbers of all sorts, those that are one bit apart among them.
func TestCompareEdges(t *testing.T) {
	l := inOrder()
	for i, a := range l {
		for j, b := range l {
			wantOrder(t, a, b, cmp.Compare(i, j))
			switch {
			case isNone(a) || isNone(b):
				wantCompared(t, a, b, false, false)
			case isNought(a) && isNought(b):
				wantCompared(t, a, b, false, true)
			default:
				wantCompared(t, a, b, i < j, i == j)
			}
		}
	}
}

// P3.3: NaNs of each sort, with numbers and with one another.
func TestCompareNone(t *testing.T) {
	for _, n := range nones() {
		for _, a := range edges() {
			wantOrder(t, n, a, 1)
			wantOrder(t, a, n, -1)
			wantCompared(t, n, a, false, false)
			wantCompared(t, a, n, false, false)
		}
		for _, m := range nones() {
			wantOrder(t, n, m, 0)
			wantCompared(t, n, m, false, false)
		}
	}
}

// P3.3: noughts, as they stand in the chapter.
func TestCompareNoughts(t *testing.T) {
	const noughtBelow = minus
	wantOrder(t, noughtBelow, 0, -1)
	wantOrder(t, 0, noughtBelow, 1)
	wantOrder(t, 0, 0, 0)
	wantOrder(t, noughtBelow, noughtBelow, 0)
	wantOrder(t, least|minus, noughtBelow, -1)
	wantOrder(t, noughtBelow, least|minus, 1)
	wantOrder(t, 0, least, -1)
	wantOrder(t, noughtBelow, least, -1)
	wantOrder(t, least|minus, 0, -1)
	for _, a := range []uint64{0, noughtBelow} {
		for _, b := range []uint64{0, noughtBelow} {
			wantCompared(t, a, b, false, true)
		}
		wantCompared(t, a, least, true, false)
		wantCompared(t, least, a, false, false)
		wantCompared(t, a, least|minus, false, false)
		wantCompared(t, least|minus, a, true, false)
	}
}

// P3.3: numbers of any bits, by what they are.
func TestCompareMany(t *testing.T) {
	r := rand.New(rand.NewSource(41))
	for range 50000 {
		a := anyOne(r, one)
		b := anyOne(r, a)
		want := exact(a).Cmp(exact(b))
		wantCompared(t, a, b, want < 0, want == 0)
		wantCompared(t, b, a, want > 0, want == 0)
		if want == 0 && a != b {
			want = cmp.Compare(b>>63, a>>63)
		}
		wantOrder(t, a, b, want)
		wantOrder(t, b, a, -want)
		wantOrder(t, a, a, 0)
	}
}

// P3.3, P3.5: Order is one order of all: turned round it is turned, and of three that rise the first stands ahead of the last.
func TestOrderOfThree(t *testing.T) {
	r := rand.New(rand.NewSource(42))
	l := append(edges(), nones()...)
	some := func() uint64 {
		if r.Intn(2) == 0 {
			return l[r.Intn(len(l))]
		}
		return r.Uint64()
	}
	for range 200000 {
		a := some()
		b := signed(a^uint64(r.Intn(4)), r.Intn(2) == 0)
		c := some()
		if r.Intn(2) == 0 {
			a, c = c, a
		}
		if Order(a, b) != -Order(b, a) || Order(a, a) != 0 {
			t.Fatalf("%s and %s turned round", bits(a), bits(b))
		}
		if Order(a, b) <= 0 && Order(b, c) <= 0 && Order(a, c) != min(Order(a, b), Order(b, c)) {
			t.Fatalf("%s, %s, %s do not rise", bits(a), bits(b), bits(c))
		}
	}
}

// P3.5: Order is 0 just of one and the same right real; Less goes with Order, but for noughts and NaN.
func TestOrderGoesWith(t *testing.T) {
	l := inOrder()
	for _, a := range l {
		for _, b := range l {
			if (Order(a, b) == 0) != (a == b) {
				t.Errorf("Order of %s and %s is %d", bits(a), bits(b), Order(a, b))
			}
			if isNone(a) || isNone(b) || isNought(a) && isNought(b) {
				continue
			}
			if Less(a, b) != (Order(a, b) < 0) || Same(a, b) != (Order(a, b) == 0) {
				t.Errorf("Less and Order of %s and %s", bits(a), bits(b))
			}
		}
	}
	slices.SortFunc(l, Order)
	if !slices.Equal(l, inOrder()) {
		t.Error("what was sorted is in another order")
	}
}

package term

import (
	"cmp"
	"math/rand"
	"slices"
	"testing"

	"moidore/api"
)

func wantOrder(t *testing.T, a, b api.Term, want int) {
	t.Helper()
	if got := Order(a, b); got != want {
		t.Errorf("Order is %d, not %d: %s and %s", got, want, told(a), told(b))
	}
	if got := Same(a, b); got != (Deep(a) > 0 && want == 0) {
		t.Errorf("Same is %v: %s and %s", got, told(a), told(b))
	}
}

// wantBoth asks Order as it is, and turned round.
func wantBoth(t *testing.T, a, b api.Term, want int) {
	t.Helper()
	wantOrder(t, a, b, want)
	wantOrder(t, b, a, -want)
}

// rising is right terms, each ahead of all that stand behind it.
func rising() []api.Term {
	return []api.Term{
		num(-1 << 63), num(-1), num(0), num(1), num(2), num(1<<63 - 1),
		text(""), text("\x00"), text("\x00\x00"), text("\x00\x01"), text("A"), text("a"), text("aa"), text("ab"), text("b"), text("\x7f"), text("\x80"), text("\xc3\xa9"), text("\xff"), text("\xff\x00"),
		realOf(inf | minus), realOf(one | minus), realOf(1 | minus), realOf(minus), realOf(0), realOf(1), realOf(one), realOf(one + 1), realOf(inf), realOf(api.NaN),
		list(), list(num(0)), list(num(0), num(5)), list(num(1)), list(num(1), num(1)), list(num(1), num(1), num(0)), list(num(1), num(2)), list(num(1), text("")), list(num(2)), list(text("")), list(text(""), num(1)),
		list(realOf(minus)), list(realOf(0)), list(realOf(api.NaN)),
		list(list()), list(list(), num(0)), list(list(), list()), list(list(num(0))), list(list(num(0)), num(0)), list(list(num(0), num(0))), list(list(num(1))), list(list(num(1)), num(0)), list(list(num(1)), num(1), num(9)), list(list(num(1)), num(2)), list(list(num(1), num(0))), list(list(list())), list(tag(0)), list(pairs()),
		tag(0), tag(0, num(9)), tag(0, num(9), num(9)), tag(1), tag(1, num(0)), tag(mostTag),
		pairs(), pairs(num(1), num(1)), pairs(num(1), num(1), num(2), num(0)), pairs(num(1), num(2)), pairs(num(2), num(0)), pairs(pairs(), num(1)),
	}
}

// P4.2: each two of terms of each kind, of like and unlike parts: both ways round.
func TestOrder(t *testing.T) {
	l := rising()
	for i, a := range l {
		if !fits(a, 100, 16) {
			t.Errorf("%s is not right", told(a))
		}
		for j, b := range l {
			wantOrder(t, a, b, cmp.Compare(i, j))
			wantOrder(t, clone(a), b, cmp.Compare(i, j))
			wantOrder(t, list(num(1), a), list(num(1), b), cmp.Compare(i, j))
			wantOrder(t, list(a, num(2)), list(b, num(1), num(1)), cmp.Or(cmp.Compare(i, j), 1))
			wantOrder(t, list(a), list(b, num(1)), cmp.Or(cmp.Compare(i, j), -1))
		}
	}
}

// P4.2: what is not in order stands ahead of all that is, and neither ahead of another one.
func TestOrderUnordered(t *testing.T) {
	for _, a := range unordered() {
		for _, b := range unordered() {
			wantOrder(t, a, b, 0)
		}
		for _, b := range rising() {
			wantBoth(t, a, b, -1)
		}
		for _, b := range misshapen() {
			wantBoth(t, a, b, -1)
		}
		if Same(a, a) {
			t.Errorf("%s is the same as itself", told(a))
		}
	}
}

// P4.2: a part that its kind does not have is asked too, in the order of the words.
func TestOrderParts(t *testing.T) {
	n := func(kind api.TermKind, i int64, bits uint64, s string) api.Term {
		return row(api.Node{Kind: kind, Int: i, Bits: bits, Bytes: s})
	}
	wantBoth(t, n(-1, 9, one, "b"), n(0, 1, 0, "a"), -1)
	wantBoth(t, n(6, 9, one, "b"), n(7, 1, 0, "a"), -1)
	wantBoth(t, n(2, 1, one, "b"), n(2, 2, 0, "a"), -1)
	wantBoth(t, n(2, 1, 0, "b"), n(2, 1, one, "a"), -1)
	wantBoth(t, n(2, 1, minus, "b"), n(2, 1, 0, "a"), -1)
	wantBoth(t, n(1, 1, one, "a"), n(1, 1, one, "b"), -1)
	wantBoth(t, n(1, 1, one, "a"), n(1, 1, one, "a"), 0)
	wantBoth(t, over(api.Node{Kind: 1, Int: 1}, num(5), num(5)), over(api.Node{Kind: 1, Int: 2}), -1)
	wantBoth(t, over(api.Node{Kind: 4, Bytes: "a"}, num(5)), over(api.Node{Kind: 4, Bytes: "b"}), -1)
	wantBoth(t, over(api.Node{Kind: 2, Bytes: "a"}), over(api.Node{Kind: 2, Bytes: "a"}, num(5)), -1)
	// Of NaNs there is one in order, right or not; none has another one behind it.
	for _, bits := range []uint64{api.NaN | minus, inf + 1, 1<<64 - 1} {
		wantBoth(t, realOf(bits), realOf(api.NaN), 0)
		wantBoth(t, realOf(inf), realOf(bits), -1)
		wantBoth(t, list(realOf(bits), num(1)), list(realOf(api.NaN), num(2)), -1)
	}
}

// P4.2: lists of which one begins the other; and those in which one ends amid, and what stands behind it says otherwise.
func TestOrderEnds(t *testing.T) {
	long := nums(50)
	for n := range long {
		wantBoth(t, list(long[:n]...), list(long...), -1)
		wantBoth(t, tag(3, long[:n]...), tag(3, long...), -1)
		wantBoth(t, list(list(long[:n]...), num(9)), list(list(long...), num(1)), -1)
		wantBoth(t, list(num(1), list(list(long[:n]...), num(9)), num(7)), list(num(1), list(list(long...)), num(1)), -1)
	}
	wantBoth(t, list(list(num(1), list(num(1), num(2))), num(0)), list(list(num(1), list(num(1))), num(5)), 1)
	wantBoth(t, list(list(list(num(1)), num(0)), num(0)), list(list(list(num(1))), num(5)), 1)
	wantBoth(t, list(list(list(num(1)), num(0)), num(0)), list(list(list(num(1), num(1))), num(5)), -1)
	wantBoth(t, list(list(list(num(2)), num(0))), list(list(list(num(1), num(1))), num(5)), 1)
	wantBoth(t, list(list(), num(3)), list(list(num(3))), -1)
}

// P4.2: terms of all sorts, by the chapter's words.
func TestOrderMany(t *testing.T) {
	r := rand.New(rand.NewSource(53))
	count := map[int]int{}
	for range 200000 {
		a := anyTerm(r)
		b := anyTerm(r)
		if r.Intn(2) == 0 {
			b = turned(r, a)
		}
		want := ordered(a, b)
		count[want]++
		wantBoth(t, a, b, want)
		wantOrder(t, a, clone(a), 0)
	}
	if count[0] < 10000 || count[1] < 10000 || count[-1] < 10000 {
		t.Errorf("%v", count)
	}
}

// P4.2, P4.5: Order is one order of all.
func TestOrderOfThree(t *testing.T) {
	r := rand.New(rand.NewSource(54))
	for range 100000 {
		a, b, c := anyTerm(r), anyTerm(r), anyTerm(r)
		switch r.Intn(3) {
		case 0:
			b = turned(r, a)
		case 1:
			b = turned(r, a)
			c = turned(r, b)
		}
		if Order(a, b) <= 0 && Order(b, c) <= 0 && Order(a, c) != min(Order(a, b), Order(b, c)) {
			t.Fatalf("%s, %s, %s do not rise", told(a), told(b), told(c))
		}
	}
	l, m := rising(), rising()
	r.Shuffle(len(l), func(i, j int) { l[i], l[j] = l[j], l[i] })
	slices.SortFunc(l, Order)
	if !slices.EqualFunc(l, m, alike) {
		t.Error("what was sorted is in another order")
	}
}

// P4.5: two that are right are the same just if their nodes are.
func TestSameNodes(t *testing.T) {
	r := rand.New(rand.NewSource(55))
	same := 0
	for range 100000 {
		a := anyRight(r, 1+r.Intn(3))
		b := anyRight(r, 1+r.Intn(3))
		if !Fits(a, 10000, 16) || !Fits(b, 10000, 16) {
			t.Fatalf("%s, %s do not fit", told(a), told(b))
		}
		if Same(a, b) != alike(a, b) {
			t.Errorf("%s and %s", told(a), told(b))
		}
		if alike(a, b) {
			same++
		}
	}
	if same < 1000 {
		t.Errorf("%d are the same", same)
	}
}

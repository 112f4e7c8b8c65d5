package view_test

import (
	"math/rand"
	"slices"
	"testing"

	"moidore/api"
	"moidore/view"
)

// wantFound tells, if Find tells another output of a list's ref.
func wantFound(t *testing.T, l []api.Entry, x api.Ref, wanted api.Output, so bool) {
	t.Helper()
	o, is := view.Find(l, x)
	want(t, short(x)+" in "+short(l), o, is, wanted, so)
}

// P13.1: in a view, at each of its places, outputs of all sorts.
func TestFind(t *testing.T) {
	t.Parallel()
	outputs := rightOutputs()
	for turn := range outputs {
		var l []api.Entry
		for i, x := range rising() {
			l = append(l, entry(x, outputs[(i+turn)%len(outputs)]))
		}
		for i, e := range l {
			wantFound(t, l, e.Ref, e.Output, true)
			wantFound(t, l[:i+1], e.Ref, e.Output, true)
			wantFound(t, l[:i], e.Ref, api.Output{}, false)
			wantFound(t, l[i+1:], e.Ref, api.Output{}, false)
		}
	}
}

// P13.1: a ref that differs in one bit of Tx, or in Place alone, is another one.
func TestFindNear(t *testing.T) {
	t.Parallel()
	x := ref(7, 9, 3)
	l := entries(coins(1, 1), entry(x, hashOut()), coins(200, 2))
	for bit := range 256 {
		y := x
		y.Tx[bit/8] ^= 1 << (bit % 8)
		wantFound(t, l, y, api.Output{}, false)
		other := entry(y, plainOut(val(int64(bit))))
		wantFound(t, entries(other, l[1]), x, hashOut(), true)
		wantFound(t, entries(other, l[1]), y, other.Output, true)
		wantFound(t, entries(l[1], other), y, other.Output, true)
	}
	for _, place := range []int{0, 1, 2, 4, 30, 31, -1, -3, 259, 3 + 1<<16, 3 + 1<<32, least, most} {
		y := x
		y.Place = place
		wantFound(t, l, y, api.Output{}, false)
		wantFound(t, entries(entry(y, termOut()), l[1]), x, hashOut(), true)
		wantFound(t, entries(l[1], entry(y, termOut())), y, termOut(), true)
	}
}

// P13.1: in no list there is none; nor is a zero ref in one that does not have it.
func TestFindNone(t *testing.T) {
	t.Parallel()
	for _, x := range append(rising(), ref(1, 1, -1), ref(1, 1, most)) {
		wantFound(t, nil, x, api.Output{}, false)
		wantFound(t, entries(), x, api.Output{}, false)
		wantFound(t, make([]api.Entry, 3, 9)[:0], x, api.Output{}, false)
	}
	wantFound(t, entries(coins(1, 1)), api.Ref{}, api.Output{}, false)
	wantFound(t, make([]api.Entry, 1), api.Ref{}, api.Output{}, true)
}

// P13.1: of a ref that stands there more than once the first one is told, wherever they stand.
func TestFindTwice(t *testing.T) {
	t.Parallel()
	x := ref(7, 9, 3)
	a, b, c := entry(x, hashOut()), entry(x, termOut()), entry(x, plainOut(val(5)))
	o := entries(coins(1, 1), coins(200, 2))
	for _, l := range [][]api.Entry{{a, b}, {a, b, c}, {a, c, b}, {o[0], a, b}, {a, o[0], b}, {o[1], a, o[0], b, c}, {o[0], o[1], a, a, b}, {a, o[1], o[1], o[0], c}} {
		wantFound(t, l, x, a.Output, true)
		slices.Reverse(l)
		first := l[slices.IndexFunc(l, func(e api.Entry) bool { return e.Ref == x })]
		wantFound(t, l, x, first.Output, true)
	}
}

// P13.1: lists that are no view are asked likewise: outputs that are not right are told as they stand, refs that may not be are there.
func TestFindInNoView(t *testing.T) {
	t.Parallel()
	lists := wrongLists()
	for name, d := range wrongDiffs() {
		lists["Spent of "+name], lists["Made of "+name] = d.Spent, d.Made
	}
	for name, l := range lists {
		for _, x := range append(refsOf(l), rising()...) {
			var wanted api.Output
			at := place(l, x)
			if at >= 0 {
				wanted = l[at].Output
			}
			o, is := view.Find(l, x)
			want(t, name, o, is, wanted, at >= 0)
		}
	}
	falling := slices.Clone(rising())
	slices.Reverse(falling)
	var l []api.Entry
	for i, x := range falling {
		l = append(l, entry(x, plainOut(val(int64(i)))))
	}
	for i, x := range falling {
		wantFound(t, l, x, plainOut(val(int64(i))), true)
	}
}

// P13.1: lists that are put together by chance, held against the plain telling.
func TestFindByChance(t *testing.T) {
	t.Parallel()
	r := rand.New(rand.NewSource(1301))
	refs := rising()
	for range 500 {
		l := slices.Concat(anyOf(r, refs, 2), anyOf(r, refs, 3))
		r.Shuffle(len(l), func(i, k int) { l[i], l[k] = l[k], l[i] })
		for _, x := range refs {
			at := place(l, x)
			if at < 0 {
				wantFound(t, l, x, api.Output{}, false)
			} else {
				wantFound(t, l, x, l[at].Output, true)
			}
		}
	}
}

package view_test

import (
	"math/rand"
	"slices"
	"strconv"
	"testing"

	"moidore/api"
	"moidore/pack"
	"moidore/view"
)

// wantTurned tells, if Apply of l and d, or Undo of l and d turned round, tells something else.
func wantTurned(t *testing.T, name string, l []api.Entry, d api.Diff, wanted []api.Entry, so bool) {
	t.Helper()
	got, is := view.Apply(l, d)
	want(t, "Apply, "+name, got, is, wanted, so)
	d.Spent, d.Made = d.Made, d.Spent
	got, is = view.Undo(l, d)
	want(t, "Undo, "+name, got, is, wanted, so)
}

// row is the entries of some numbers, with as many coins.
func row(numbers ...byte) []api.Entry {
	var l []api.Entry
	for _, n := range numbers {
		l = append(l, coins(n, int64(n)))
	}
	return l
}

// P13.2: nothing, one, several, all of a view are spent; nothing, one, several are made, ahead of all, between, behind all.
func TestApply(t *testing.T) {
	t.Parallel()
	for i, x := range []struct{ l, spent, made, behind []byte }{
		{nil, nil, nil, nil},
		{nil, nil, []byte{1}, []byte{1}},
		{nil, nil, []byte{1, 2, 200}, []byte{1, 2, 200}},
		{[]byte{2, 4, 6}, nil, nil, []byte{2, 4, 6}},
		{[]byte{2, 4, 6}, []byte{2}, nil, []byte{4, 6}},
		{[]byte{2, 4, 6}, []byte{4}, nil, []byte{2, 6}},
		{[]byte{2, 4, 6}, []byte{6}, nil, []byte{2, 4}},
		{[]byte{2, 4, 6}, []byte{2, 6}, nil, []byte{4}},
		{[]byte{2, 4, 6}, []byte{2, 4, 6}, nil, nil},
		{[]byte{2, 4, 6}, nil, []byte{1}, []byte{1, 2, 4, 6}},
		{[]byte{2, 4, 6}, nil, []byte{3}, []byte{2, 3, 4, 6}},
		{[]byte{2, 4, 6}, nil, []byte{7}, []byte{2, 4, 6, 7}},
		{[]byte{2, 4, 6}, nil, []byte{0, 1}, []byte{0, 1, 2, 4, 6}},
		{[]byte{2, 4, 6}, nil, []byte{128, 255}, []byte{2, 4, 6, 128, 255}},
		{[]byte{2, 4, 6}, nil, []byte{1, 3, 5, 7}, []byte{1, 2, 3, 4, 5, 6, 7}},
		{[]byte{2, 4, 6}, []byte{4}, []byte{3}, []byte{2, 3, 6}},
		{[]byte{2, 4, 6}, []byte{4}, []byte{5}, []byte{2, 5, 6}},
		{[]byte{2, 4, 6}, []byte{2, 4}, []byte{1, 7}, []byte{1, 6, 7}},
		{[]byte{2, 4, 6}, []byte{2, 4, 6}, []byte{3}, []byte{3}},
		{[]byte{2, 4, 6}, []byte{2, 4, 6}, []byte{1, 3, 5, 7}, []byte{1, 3, 5, 7}},
		{[]byte{100, 127, 128, 200}, []byte{127}, []byte{126, 129, 255}, []byte{100, 126, 128, 129, 200, 255}},
	} {
		d := api.Diff{Spent: row(x.spent...), Made: row(x.made...), Fees: 3, Forfeits: most, Mint: totals(tot(1, "a", -1, 7))}
		wantTurned(t, strconv.Itoa(i), row(x.l...), d, row(x.behind...), true)
	}
}

// P13.2: what is behind rises by all bytes of Tx, then by Place; each ref in its turn is made, and each one spent.
func TestApplyRises(t *testing.T) {
	t.Parallel()
	refs, outputs := rising(), rightOutputs()
	var all []api.Entry
	for i, x := range refs {
		all = append(all, entry(x, outputs[i%len(outputs)]))
	}
	for i := range all {
		rest := slices.Concat(all[:i], all[i+1:])
		wantTurned(t, "made "+short(refs[i]), rest, api.Diff{Made: all[i : i+1]}, all, true)
		wantTurned(t, "spent "+short(refs[i]), all, api.Diff{Spent: all[i : i+1]}, rest, true)
		wantTurned(t, "made all from "+short(refs[i]), all[:i], api.Diff{Made: all[i:]}, all, true)
		wantTurned(t, "made all to "+short(refs[i]), all[i:], api.Diff{Made: all[:i]}, all, true)
		wantTurned(t, "all for the others "+short(refs[i]), all[:i], api.Diff{Spent: all[:i], Made: all[i:]}, all[i:], true)
	}
	for i := range 32 {
		a, b := api.Ref{Place: 30}, api.Ref{}
		b.Tx[i] = 1
		l := entries(entry(a, hashOut()), entry(b, termOut()))
		wantTurned(t, "the byte "+strconv.Itoa(i), l[:1], api.Diff{Made: l[1:]}, l, true)
		wantTurned(t, "the byte "+strconv.Itoa(i), l[1:], api.Diff{Made: l[:1]}, l, true)
	}
}

// chosen is the entries whose bits are set.
func chosen(all []api.Entry, bits int) []api.Entry {
	var l []api.Entry
	for i, e := range all {
		if bits>>i&1 == 1 {
			l = append(l, e)
		}
	}
	return l
}

// P13.2: each view of four refs with each diff of these: all that is spent must be there, nothing that is made, and nothing be both.
func TestApplyEach(t *testing.T) {
	t.Parallel()
	all := entries(coins(1, 1), entry(ref(1, 0, 2), hashOut()), entry(ref(1, 1, 0), termOut()), coins(200, 4))
	fit := 0
	for l := range 16 {
		for spent := range 16 {
			for made := range 16 {
				d := api.Diff{Spent: chosen(all, spent), Made: chosen(all, made)}
				name := strconv.Itoa(l) + " " + strconv.Itoa(spent) + " " + strconv.Itoa(made)
				if spent&^l == 0 && made&(l|spent) == 0 {
					fit++
					wantTurned(t, name, chosen(all, l), d, chosen(all, l&^spent|made), true)
				} else {
					wantTurned(t, name, chosen(all, l), d, nil, false)
				}
			}
		}
	}
	if fit != 4*4*4*4 { // each ref is left out, or made, or stays, or is spent
		t.Error(fit)
	}
}

// P13.2: an entry that is spent stands there just so: one whose output differs in any part is another one.
func TestApplyJustSo(t *testing.T) {
	t.Parallel()
	count := map[string]int{}
	for _, o := range rightOutputs() {
		for name, bend := range bends() {
			p := copied(o, 0)
			bend(&p)
			if same(p, o) || !pack.RightOutput(p) {
				continue
			}
			count[name]++
			a, b := entry(ref(5, 0, 0), o), entry(ref(5, 0, 0), p)
			rest := entries(coins(1, 1), coins(9, 1))
			wantTurned(t, name, entries(a), api.Diff{Spent: entries(b)}, nil, false)
			wantTurned(t, name, entries(b), api.Diff{Spent: entries(a)}, nil, false)
			wantTurned(t, name+" of several", entries(rest[0], a, rest[1]), api.Diff{Spent: entries(rest[0], b, rest[1])}, nil, false)
			wantTurned(t, name+", not bent", entries(rest[0], b, rest[1]), api.Diff{Spent: entries(rest[0], b)}, rest[1:], true)
			wantTurned(t, name+", made anew", entries(a), api.Diff{Made: entries(b)}, nil, false)
		}
	}
	for name := range bends() {
		if count[name] == 0 {
			t.Errorf("%s: of no output", name)
		}
	}
	outputs := rightOutputs()
	for i, o := range outputs {
		for k, p := range outputs {
			wantTurned(t, "outputs "+strconv.Itoa(i)+" "+strconv.Itoa(k), entries(entry(ref(5, 0, 0), o)), api.Diff{Spent: entries(entry(ref(5, 0, 0), p))}, nil, i == k)
		}
	}
}

// P13.2: what is spent must be there, at each place: a ref that is near one that is there is another one.
func TestApplyMissing(t *testing.T) {
	t.Parallel()
	x := ref(5, 7, 3)
	l := entries(coins(1, 1), entry(x, plainOut(val(2))), coins(9, 1))
	near := []api.Ref{ref(5, 7, 2), ref(5, 7, 4), ref(5, 6, 3), ref(4, 7, 3), ref(6, 7, 3), {}, ref(255, 255, 30)}
	for bit := range 256 {
		y := x
		y.Tx[bit/8] ^= 1 << (bit % 8)
		near = append(near, y)
	}
	for _, y := range near {
		wantTurned(t, "spent "+short(y), l, api.Diff{Spent: entries(entry(y, plainOut(val(2))))}, nil, false)
		wantTurned(t, "made "+short(y), l, api.Diff{Made: entries(entry(y, plainOut(val(2))))}, together(l, entries(entry(y, plainOut(val(2))))), true)
		wantTurned(t, "spent for it "+short(y), l, api.Diff{Spent: l[1:2], Made: entries(entry(y, plainOut(val(2))))}, together(but(l, l[1:2]), entries(entry(y, plainOut(val(2))))), true)
	}
	for at := range 5 {
		none := []byte{0, 2, 4, 6, 8}[at]
		wantTurned(t, "the number "+strconv.Itoa(at), row(1, 3, 5, 7), api.Diff{Spent: row(none)}, nil, false)
		wantTurned(t, "the number "+strconv.Itoa(at), row(1, 3, 5, 7), api.Diff{Spent: together(row(1, 3, 5, 7), row(none))}, nil, false)
	}
	for _, n := range []byte{1, 3, 5, 7} {
		wantTurned(t, "what is made is there", row(1, 3, 5, 7), api.Diff{Made: row(n)}, nil, false)
		wantTurned(t, "what is made is there", row(1, 3, 5, 7), api.Diff{Made: together(row(0, 2, 8), row(n))}, nil, false)
		wantTurned(t, "what is made is there", row(1, 3, 5, 7), api.Diff{Spent: but(row(1, 3, 5, 7), row(n)), Made: row(n)}, nil, false)
	}
	wantTurned(t, "no view", nil, api.Diff{Spent: row(1)}, nil, false)
}

// P13.2: a ref that is spent and made by one diff is none of a right one's: it fits nothing, there or not, as it was or anew.
func TestApplySpentAndMade(t *testing.T) {
	t.Parallel()
	for _, l := range [][]api.Entry{nil, row(5), row(1, 5, 9), row(1, 9)} {
		for _, o := range []api.Output{plainOut(val(5)), hashOut()} {
			e := entry(ref(5, 0, 0), o)
			wantTurned(t, "alone", l, api.Diff{Spent: row(5), Made: entries(e)}, nil, false)
			wantTurned(t, "alone", l, api.Diff{Spent: entries(e), Made: entries(e)}, nil, false)
			wantTurned(t, "among others", l, api.Diff{Spent: row(5), Made: entries(coins(2, 2), e, coins(7, 7))}, nil, false)
		}
	}
}

// P13.2: entries that are no view, with each diff, also with one that does nothing.
func TestApplyNoView(t *testing.T) {
	t.Parallel()
	for name, l := range wrongLists() {
		wantTurned(t, name, l, api.Diff{}, nil, false)
		wantTurned(t, name+", made", l, api.Diff{Made: row(40)}, nil, false)
		wantTurned(t, name+", spent the first", l, api.Diff{Spent: l[:1]}, nil, false)
		wantTurned(t, name+", spent the last", l, api.Diff{Spent: l[len(l)-1:]}, nil, false)
		wantTurned(t, name+", spent all", l, api.Diff{Spent: l}, nil, false)
	}
}

// P13.2: diffs that are not right, over views that have all that they spend, and nothing that they make.
func TestApplyWrongDiff(t *testing.T) {
	t.Parallel()
	for name, d := range wrongDiffs() {
		for _, l := range [][]api.Entry{nil, row(10, 20), d.Spent, d.Made, row(1, 10, 20, 30)} {
			wantTurned(t, name, l, d, nil, false)
		}
		seen := map[api.Ref]int{}
		var there []api.Entry
		for _, e := range d.Spent {
			if seen[e.Ref]++; seen[e.Ref] == 1 {
				there = append(there, e)
			}
		}
		wantTurned(t, name+", what is spent is there", there, d, nil, false)
	}
}

// P13.2: fees, forfeits and mint of a right diff play no part.
func TestApplySums(t *testing.T) {
	t.Parallel()
	for _, fees := range []int64{0, 1, most} {
		for _, forfeits := range []int64{0, 1, most} {
			for _, mint := range [][]api.Total{nil, totals(), totals(tot(1, "a", most, 1<<64-1)), totals(tot(1, "", -1, 0), tot(1, "a", 0, 1), tot(2, "", least, 0))} {
				d := api.Diff{Spent: row(2), Made: row(3), Fees: fees, Forfeits: forfeits, Mint: mint}
				wantTurned(t, short(d), row(1, 2), d, row(1, 3), true)
			}
		}
	}
}

// P13.2: views and diffs of many entries.
func TestApplyMany(t *testing.T) {
	t.Parallel()
	const n = 6000
	var all []api.Entry
	for i := range n {
		x := api.Ref{Place: i % 31}
		x.Tx[3], x.Tx[20] = byte(i/31/100), byte(i/31%100)
		all = append(all, entry(x, plainOut(val(int64(i)))))
	}
	var even, odd []api.Entry
	for i := range n / 2 {
		even, odd = append(even, all[2*i]), append(odd, all[2*i+1])
	}
	wantTurned(t, "the odd ones for the even ones", even, api.Diff{Spent: even, Made: odd}, odd, true)
	wantTurned(t, "all", even, api.Diff{Made: odd}, all, true)
	wantTurned(t, "none", all, api.Diff{Spent: all}, nil, true)
	wantTurned(t, "one of many is there", all, api.Diff{Made: odd[n/2-1:]}, nil, false)
	wantTurned(t, "one of many is not there", even, api.Diff{Spent: append(slices.Clone(even), odd[n/2-1])}, nil, false)
}

// P13.2: views and diffs that are put together by chance, held against the plain telling.
func TestApplyByChance(t *testing.T) {
	t.Parallel()
	r := rand.New(rand.NewSource(1302))
	refs := rising()
	count := map[bool]int{}
	for range 6000 {
		l := anyOf(r, refs, 1+r.Intn(4))
		d := anyFit(r, l, refs)
		for range r.Intn(3) {
			d = spoilt(r, d)
		}
		if r.Intn(10) == 0 {
			d = anyDiff(r, refs)
		}
		if r.Intn(12) == 0 && len(l) > 0 {
			l[r.Intn(len(l))].Ref = refs[r.Intn(len(refs))]
		}
		wanted, so := applied(l, d)
		wantTurned(t, "by chance", l, d, wanted, so)
		other, may := undone(l, d)
		got, is := view.Undo(l, d)
		want(t, "Undo, by chance", got, is, other, may)
		count[so]++
	}
	if count[true] < 1000 || count[false] < 1000 {
		t.Error(count)
	}
}

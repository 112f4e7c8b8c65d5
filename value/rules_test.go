package value

import (
	"math/rand"
	"slices"
	"strconv"
	"strings"
	"testing"
	"unsafe"

	"moidore/api"
)

// given is what the calls are given.
type given struct {
	l    []api.Value
	mint []api.Asset
	out  []api.Value
	rows [][]api.Total
	n    int64
	w    []api.Wide
}

// anyGiven is something of all sorts.
func anyGiven(r *rand.Rand) given {
	one := anyBundle
	if r.Intn(2) == 0 {
		one = anyRight
	}
	g := given{l: bundles(r, 1+r.Intn(4), one), mint: anyBundle(r).Assets, out: bundles(r, r.Intn(4), anyBundle), n: anyNumber(r)}
	for range r.Intn(4) {
		g.rows = append(g.rows, anyTotals(r))
		g.w = append(g.w, anyWide(r))
	}
	return g
}

// clone is the same, in memory of its own.
func (g given) clone() given {
	g.l, g.out, g.mint, g.w = cloneAll(g.l), cloneAll(g.out), clone(val(0, g.mint...)).Assets, slices.Clone(g.w)
	g.rows = slices.Clone(g.rows)
	for i := range g.rows {
		g.rows[i] = slices.Clone(g.rows[i])
	}
	return g
}

// told is all that was given, as a text.
func (g given) told() string {
	l := []string{toldAll(g.l), told(val(0, g.mint...)), toldAll(g.out), number(g.n)}
	for _, row := range g.rows {
		l = append(l, toldTotals(row))
	}
	for _, w := range g.w {
		l = append(l, toldWide(w))
	}
	return strings.Join(l, "; ")
}

// calls is all that all calls tell of what they are given, as a text.
func (g given) calls() string {
	a, b := g.l[0], g.l[len(g.l)-1]
	l := []string{toldWide(Wide(g.n)), toldWide(Plus(g.w...)), toldTotals(Merge(g.rows...))}
	say := func(is ...bool) {
		for _, x := range is {
			l = append(l, strconv.FormatBool(x))
		}
	}
	say(Right(a), Mints(g.mint), Covers(a, b), Balance(g.l, g.mint, g.out, g.n), Balance(g.l, g.mint, g.l, g.n))
	for _, row := range g.rows {
		say(Totals(row))
	}
	for _, x := range g.mint {
		l = append(l, number(Of(a, x.Policy, x.Name)))
	}
	for _, w := range g.w {
		l = append(l, strconv.Itoa(Cmp(w, Wide(g.n))))
	}
	sum, is := Add(g.l...)
	less, ok := Sub(a, b)
	say(is, ok)
	coins, amounts := Sums(g.l...)
	return strings.Join(append(l, told(sum), told(less), toldWide(coins), toldTotals(amounts)), "; ")
}

// R1, R3, R4: no call panics; the arguments are as they were behind all calls; and each call answers alike each time, also of copies of what it was given.
func TestArguments(t *testing.T) {
	r := rand.New(rand.NewSource(101))
	for range 2500 {
		g := anyGiven(r)
		h := g.clone()
		want := g.told()
		first := g.calls()
		if g.told() != want {
			t.Fatalf("changed: %s, which was %s", g.told(), want)
		}
		if g.calls() != first || h.calls() != first {
			t.Fatalf("answered in two ways: %s", want)
		}
	}
}

// R4: rows of many names stand in one order, however often they are asked for.
func TestOneOrder(t *testing.T) {
	l := many(0, 200)
	var rows [][]api.Total
	for _, a := range l {
		rows = append(rows, tots(api.Total{Policy: a.Policy, Name: a.Name, Sum: wide(0, 1)}))
	}
	want := slices.Concat(rows...)
	r := rand.New(rand.NewSource(102))
	for range 100 {
		r.Shuffle(len(l), func(i, k int) { l[i], l[k] = l[k], l[i] })
		r.Shuffle(len(rows), func(i, k int) { rows[i], rows[k] = rows[k], rows[i] })
		wantSums(t, "200 names", wide(0, 0), want, val(0, l...))
		wantMerge(t, "200 names", want, rows...)
		wantAdd(t, "30 names", true, val(0, many(0, 30)...), val(0, many(20, 10)...), val(0, many(10, 10)...), val(0, many(0, 10)...))
	}
}

// spare is room behind a row, in the same memory, that no call may write to.
const spare = 8

// roomy is the row with such room, which holds the elements fill.
func roomy[T any](l []T, fill T) []T {
	m := slices.Clone(l)
	for range spare {
		m = append(m, fill)
	}
	return m[:len(l)]
}

// untouched says whether the room behind the row holds what it held.
func untouched[T any](l []T, is func(T) bool) bool {
	for _, x := range l[len(l) : len(l)+spare] {
		if !is(x) {
			return false
		}
	}
	return true
}

// R3: what stands behind a row that is given, in its memory, is not changed either.
func TestRoomBehind(t *testing.T) {
	r := rand.New(rand.NewSource(103))
	for range 500 {
		g := anyGiven(r)
		mark, asset := val(-77), as("mark", -77)
		isMark := func(v api.Value) bool { return v.Coin == -77 && v.Assets == nil }
		isAsset := func(a api.Asset) bool { return a == asset }
		isTotal := func(x api.Total) bool { return x == tot("mark", 7, 7) }
		for i := range g.l {
			g.l[i].Assets = roomy(g.l[i].Assets, asset)
		}
		for i := range g.rows {
			g.rows[i] = roomy(g.rows[i], tot("mark", 7, 7))
		}
		g.l, g.out, g.mint = roomy(g.l, mark), roomy(g.out, mark), roomy(g.mint, asset)
		g.rows, g.w = roomy(g.rows, nil), roomy(g.w, wide(7, 7))
		g.calls()
		is := untouched(g.l, isMark) && untouched(g.out, isMark) && untouched(g.mint, isAsset)
		is = is && untouched(g.rows, func(l []api.Total) bool { return l == nil }) && untouched(g.w, func(w api.Wide) bool { return w == wide(7, 7) })
		for _, v := range g.l {
			is = is && untouched(v.Assets, isAsset)
		}
		for _, row := range g.rows {
			is = is && untouched(row, isTotal)
		}
		if !is {
			t.Fatalf("the room behind was written to: %s", g.told())
		}
	}
}

// turnAll turns all assets, also those that their memory has room for behind them.
func turnAll(l []api.Asset) {
	l = l[:cap(l)]
	for i := range l {
		l[i] = as("turned", -9)
	}
}

// R3: a bundle that was handed out and is turned changes none that was handed in; and the other way round.
func TestNewRows(t *testing.T) {
	made := func() []api.Value {
		return []api.Value{val(5, as("a", 5), as("b", 6)), val(1, as("a", 1)), val(2, as("b", 2)), val(0)}
	}
	for name, call := range map[string]struct {
		tell func(l []api.Value) (api.Value, bool)
		want api.Value
	}{
		"Add of one":           {func(l []api.Value) (api.Value, bool) { return Add(l[0]) }, made()[0]},
		"Add of one, and none": {func(l []api.Value) (api.Value, bool) { return Add(l[0], l[3]) }, made()[0]},
		"Add of all":           {func(l []api.Value) (api.Value, bool) { return Add(l...) }, val(8, as("a", 6), as("b", 8))},
		"Sub of nothing":       {func(l []api.Value) (api.Value, bool) { return Sub(l[0], l[3]) }, made()[0]},
		"Sub of some":          {func(l []api.Value) (api.Value, bool) { return Sub(l[0], l[1]) }, val(4, as("a", 4), as("b", 6))},
		"Sub of others":        {func(l []api.Value) (api.Value, bool) { return Sub(l[0], l[2]) }, val(3, as("a", 5), as("b", 4))},
	} {
		l := made()
		v, _ := call.tell(l)
		turnAll(v.Assets)
		if !slices.EqualFunc(l, made(), alike) {
			t.Errorf("%s: what was handed in was changed", name)
		}
		v, is := call.tell(l)
		w, _ := call.tell(l)
		turnAll(w.Assets)
		for i := range l {
			turnAll(l[i].Assets)
			l[i] = val(-9)
		}
		if !is || !alike(v, call.want) {
			t.Errorf("%s: %s, not %s", name, told(v), told(call.want))
		}
	}
}

// R3: totals that were handed out and are turned change none that were handed in; and the other way round.
func TestNewTotals(t *testing.T) {
	made := func() []api.Total { return tots(tot("a", 0, 1), tot("b", 0, 2)) }
	turn := func(l []api.Total) {
		l = l[:cap(l)]
		for i := range l {
			l[i] = tot("turned", -9, 9)
		}
	}
	for _, more := range [][][]api.Total{nil, {nil}, {{}}, {tots(tot("a", 0, 0))}} {
		row := made()
		rows := append([][]api.Total{row}, more...)
		turn(Merge(rows...))
		if !slices.Equal(row, made()) {
			t.Error("Merge's rows were changed")
		}
		m := Merge(rows...)
		turn(row)
		if !slices.Equal(m, made()) {
			t.Errorf("what Merge told was changed: %s", toldTotals(m))
		}
	}
	v := val(1, as("a", 1), as("b", 2))
	_, l := Sums(v)
	turn(l)
	if !alike(v, val(1, as("a", 1), as("b", 2))) {
		t.Error("Sums' bundle was changed")
	}
	_, l = Sums(v)
	turnAll(v.Assets)
	if !slices.Equal(l, made()) {
		t.Errorf("what Sums told was changed: %s", toldTotals(l))
	}
}

// shares says whether two names lie in the same memory.
func shares(a, b string) bool { return unsafe.StringData(a) == unsafe.StringData(b) }

// R3: the names that are handed out are new memory too.
func TestNewNames(t *testing.T) {
	v := clone(val(5, as("a name", 5), as("another", 6)))
	none, part := val(0), clone(val(1, as("another", 1)))
	given := []string{v.Assets[0].Name, v.Assets[1].Name, part.Assets[0].Name}
	fresh := func(call, name string) {
		for _, s := range given {
			if shares(s, name) {
				t.Errorf("%s hands out a name that it was given", call)
			}
		}
	}
	for call, tell := range map[string]func() (api.Value, bool){
		"Add of one":     func() (api.Value, bool) { return Add(v) },
		"Add of two":     func() (api.Value, bool) { return Add(none, v) },
		"Add of all":     func() (api.Value, bool) { return Add(part, v, none) },
		"Sub of nothing": func() (api.Value, bool) { return Sub(v, none) },
		"Sub of some":    func() (api.Value, bool) { return Sub(v, part) },
	} {
		sum, is := tell()
		if !is || len(sum.Assets) != 2 {
			t.Errorf("%s: %s", call, told(sum))
		}
		for _, a := range sum.Assets {
			fresh(call, a.Name)
		}
	}
	_, l := Sums(v, part)
	for _, x := range l {
		fresh("Sums", x.Name)
		given = append(given, x.Name)
	}
	for _, rows := range [][][]api.Total{{l}, {l, nil}, {l, l}, {l[:1], l[1:]}} {
		for _, x := range Merge(rows...) {
			fresh("Merge", x.Name)
		}
	}
}

// R3: one bundle, one row may be given twice.
func TestTwice(t *testing.T) {
	v := val(5, as("a", 1))
	wantAdd(t, "one thrice", true, val(15, as("a", 3)), v, v, v)
	wantSub(t, "itself", v, v, true, val(0))
	row := tots(tot("a", 0, 1))
	wantMerge(t, "one twice", tots(tot("a", 0, 2)), row, row)
	l := vals(v)
	wantBalance(t, "in and out", true, l, nil, l, 0)
	wantBalance(t, "in, minted and out", true, l, v.Assets, vals(v, val(0, v.Assets...)), 0)
}

// R6: lists without elements and nil ones are one.
func TestNothing(t *testing.T) {
	empty := api.Value{Assets: []api.Asset{}}
	for _, v := range []api.Value{val(0), empty} {
		if !Right(v) || !Covers(v, empty) || !Covers(v, val(0)) || Of(v, api.Hash{}, "") != 0 {
			t.Error("an empty bundle")
		}
		wantAdd(t, "empty ones", true, empty, v, empty)
		wantSub(t, "empty ones", v, empty, true, val(0))
		wantSums(t, "empty ones", wide(0, 0), nil, v, empty)
		wantBalance(t, "empty ones", true, vals(v), []api.Asset{}, nil, 0)
		wantBalance(t, "empty ones", true, nil, nil, vals(v, empty), 0)
	}
	if !Mints(nil) || !Mints([]api.Asset{}) || !Totals(nil) || !Totals([]api.Total{}) {
		t.Error("empty rows")
	}
	wantMerge(t, "empty rows", nil, []api.Total{}, nil)
	wantBalance(t, "empty rows", true, []api.Value{}, []api.Asset{}, []api.Value{}, 0)
	wantBalance(t, "empty rows", true, nil, nil, nil, 0)
}

// R1: the ends of all numbers, each with each.
func TestEnds(t *testing.T) {
	ends := []int64{least, least + 1, -1, 0, 1, most - 1, most}
	for _, n := range ends {
		for _, m := range ends {
			for _, k := range ends {
				g := given{l: vals(val(n, as("a", m)), val(m, as("a", n))), mint: []api.Asset{as("a", k)}, out: vals(val(m, as("a", k))), n: k}
				g.rows, g.w = [][]api.Total{tots(tot("a", n, uint64(m))), tots(tot("a", m, uint64(k)))}, []api.Wide{wide(n, uint64(m)), wide(m, uint64(k))}
				first := g.calls()
				if g.calls() != first {
					t.Errorf("answered in two ways: %s", g.told())
				}
			}
		}
	}
}

// R1: long rows, and long names.
func TestLongRows(t *testing.T) {
	const n = 1 << 16
	l := make([]api.Asset, n)
	for i := range l {
		l[i] = as(strconv.Itoa(i*7919%n), 1)
	}
	v := val(0, l...)
	if Right(v) || Mints(l) || Covers(v, v) {
		t.Error("a long row is right")
	}
	coins, amounts := Sums(v, v)
	if coins != wide(0, 0) || len(amounts) != n || !Totals(amounts) || len(Merge(amounts, amounts)) != n {
		t.Error("sums of a long row")
	}
	wantBalanceQuiet(t, true, vals(v), l, vals(v, v))
	wantBalanceQuiet(t, false, vals(v), l[1:], vals(v, v))
	name := long(1 << 20)
	wantBalanceQuiet(t, true, vals(val(0, as(name, 1))), nil, vals(val(0, as(name, 1))))
	if Right(val(0, as(name, 1))) || Of(val(0, as(name, 3)), p(), name) != 3 {
		t.Error("a long name")
	}
}

// wantBalanceQuiet tells nothing of rows that are long.
func wantBalanceQuiet(t *testing.T, want bool, in []api.Value, mint []api.Asset, out []api.Value) {
	t.Helper()
	if Balance(in, mint, out, 0) != want {
		t.Errorf("Balance: %v", !want)
	}
}

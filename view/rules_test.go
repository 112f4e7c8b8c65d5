package view_test

import (
	"math/rand"
	"reflect"
	"slices"
	"sync"
	"testing"
	"unsafe"

	"moidore/api"
	"moidore/view"
)

// copied is a thing in memory of its own; each of its lists has room for so many more elements behind it.
func copied[T any](x T, room int) T { return copyOf(reflect.ValueOf(x), room).Interface().(T) }

func copyOf(v reflect.Value, room int) reflect.Value {
	c := reflect.New(v.Type()).Elem()
	switch v.Kind() {
	case reflect.Struct:
		for i := range v.NumField() {
			c.Field(i).Set(copyOf(v.Field(i), room))
		}
	case reflect.Slice:
		l := reflect.MakeSlice(v.Type(), v.Len()+room, v.Len()+room)
		for i := range v.Len() {
			l.Index(i).Set(copyOf(v.Index(i), room))
		}
		c.Set(l.Slice(0, v.Len()))
	default:
		c.Set(v)
	}
	return c
}

// eachPart does something with each list, as far as its memory goes, and each text of a thing, the inner ones first.
func eachPart(v reflect.Value, do func(part reflect.Value)) {
	switch v.Kind() {
	case reflect.Struct:
		for i := range v.NumField() {
			eachPart(v.Field(i), do)
		}
	case reflect.Slice:
		l := v.Slice(0, v.Cap())
		for i := range l.Len() {
			eachPart(l.Index(i), do)
		}
		do(l)
	case reflect.String:
		do(v)
	}
}

// turn makes noughts of all elements of all lists of things.
func turn(things ...any) {
	for _, x := range things {
		eachPart(reflect.ValueOf(x), func(l reflect.Value) {
			for i := 0; l.Kind() == reflect.Slice && i < l.Len(); i++ {
				l.Index(i).SetZero()
			}
		})
	}
}

// room is what stands in and behind the lists of a thing, in their memory.
func room(x any) []any {
	var l []any
	eachPart(reflect.ValueOf(x), func(v reflect.Value) {
		if v.Kind() == reflect.Slice {
			l = append(l, copied(v.Interface(), 0))
		}
	})
	return l
}

// span is the memory of a list, or of a text.
type span struct{ from, to uintptr }

// spans is all memory that things stand in.
func spans(things ...any) []span {
	var l []span
	for _, x := range things {
		eachPart(reflect.ValueOf(x), func(v reflect.Value) {
			switch {
			case v.Kind() == reflect.String && v.Len() > 0:
				from := uintptr(unsafe.Pointer(unsafe.StringData(v.String())))
				l = append(l, span{from, from + uintptr(v.Len())})
			case v.Kind() == reflect.Slice && v.Cap()*int(v.Type().Elem().Size()) > 0:
				l = append(l, span{v.Pointer(), v.Pointer() + uintptr(v.Cap())*v.Type().Elem().Size()})
			}
		})
	}
	slices.SortFunc(l, func(a, b span) int { return int(a.from) - int(b.from) })
	return l
}

// wantApart tells, if an answer shares memory with what was given, or within itself.
func wantApart(t *testing.T, name string, answer any, given ...any) {
	t.Helper()
	l := spans(answer)
	for i := range l {
		if i > 0 && l[i-1].to > l[i].from {
			t.Errorf("%s: two lists or texts of one answer share memory", name)
		}
	}
	had := spans(given...)
	for _, a := range l {
		for _, b := range had {
			if a.from < b.to && b.from < a.to {
				t.Errorf("%s: an answer shares memory with what was given", name)
				return
			}
		}
	}
}

// call is what all calls are given.
type call struct {
	l     []api.Entry
	ref   api.Ref
	d     api.Diff
	diffs []api.Diff
}

// answers is what all calls answer.
type answers struct {
	Output                         api.Output
	Behind, Ahead                  []api.Entry
	All                            api.Diff
	Found, Applied, Undone, Joined bool
}

func ask(c call) answers {
	var a answers
	a.Output, a.Found = view.Find(c.l, c.ref)
	a.Behind, a.Applied = view.Apply(c.l, c.d)
	a.Ahead, a.Undone = view.Undo(c.l, c.d)
	a.All, a.Joined = view.Join(c.diffs...)
	return a
}

// calls is calls of many sorts: such as have all, or some, of what is wanted, and such as have not.
func calls() []call {
	d := someDiff()
	round := d
	round.Spent, round.Made = d.Made, d.Spent
	next := api.Diff{Spent: d.Made, Made: row(1, 2, 3), Mint: d.Mint}
	l := []call{
		{}, {l: d.Spent, ref: ref(30, 0, 2), d: d, diffs: []api.Diff{d, next}}, {l: d.Made, ref: ref(30, 0, 1), d: d, diffs: []api.Diff{d}},
		{l: d.Spent, ref: ref(1, 2, 3), d: round, diffs: []api.Diff{d, d}}, {diffs: []api.Diff{{}, {}, d}}, {l: d.Made, d: api.Diff{}, diffs: []api.Diff{d, round}},
	}
	for _, x := range wrongLists() {
		l = append(l, call{l: x, ref: x[len(x)-1].Ref, d: api.Diff{Made: row(50)}, diffs: []api.Diff{{Made: row(50)}, {Spent: x}}})
	}
	for _, x := range wrongDiffs() {
		l = append(l, call{l: x.Spent, ref: ref(10, 0, 0), d: x, diffs: []api.Diff{d, x}}, call{l: x.Made, d: x, diffs: []api.Diff{x}})
	}
	r := rand.New(rand.NewSource(1310))
	for range 300 {
		views, diffs := walk(r)
		if len(diffs) > 0 {
			i := r.Intn(len(diffs))
			l = append(l, call{l: views[i+r.Intn(2)], ref: rising()[r.Intn(len(rising()))], d: diffs[i], diffs: diffs})
		}
	}
	return l
}

// R3, R4, R6: what is given is as it was behind each call, also the room behind its lists; each call answers alike each time, also of copies, also where lists without elements are none.
func TestArguments(t *testing.T) {
	t.Parallel()
	for _, c := range calls() {
		wanted := ask(c)
		l, diffs := copied(c.l, 3), copied(c.diffs, 3)
		d := copied(c.d, 3)
		for _, x := range []call{{l, c.ref, d, diffs}, {copied(c.l, 0), c.ref, copied(c.d, 0), copied(c.diffs, 0)}} {
			had := []any{room(x.l), room(x.d), room(x.diffs)}
			for range 3 {
				if got := ask(x); !same(got, wanted) {
					t.Errorf("answered in two ways: %s, %s", short(got), short(wanted))
				}
			}
			if !reflect.DeepEqual([]any{room(x.l), room(x.d), room(x.diffs)}, had) || !same(x.l, c.l) || !same(x.d, c.d) || !same(x.diffs, c.diffs) {
				t.Errorf("changed: %s", short(c))
			}
		}
	}
}

// R3: what is handed out is new memory, all lists and texts of it: it shares none with what was given, nor do two lists of one answer.
func TestNewMemory(t *testing.T) {
	t.Parallel()
	for _, c := range calls() {
		c = call{copied(c.l, 2), c.ref, copied(c.d, 2), copied(c.diffs, 2)}
		a := ask(c)
		wantApart(t, "Find", a.Output, c.l)
		wantApart(t, "Apply", a.Behind, c.l, c.d)
		wantApart(t, "Undo", a.Ahead, c.l, c.d)
		wantApart(t, "Join", a.All, c.diffs)
		b := ask(c)
		wantApart(t, "one behind the other", a, b)
		turn(b)
		if !same(ask(c), a) {
			t.Errorf("an answer that is written over changes the next one: %s", short(c))
		}
		kept := copied(a, 0)
		turn(c.l, c.d, c.diffs)
		if !same(a, kept) {
			t.Errorf("what was given, written over, changes an answer: %s", short(c))
		}
	}
}

// R3: entries that share memory, in one row, or in the rows of a diff, come out with memory of their own.
func TestSharedArguments(t *testing.T) {
	t.Parallel()
	o, p := hashOut(), termOut()
	l := entries(entry(ref(1, 0, 0), o), entry(ref(2, 0, 0), o), entry(ref(3, 0, 0), p), entry(ref(4, 0, 0), p), entry(ref(5, 0, 0), o))
	mint := totals(tot(1, "name", 0, 1), tot(2, "name", 0, 1))
	a, b := api.Diff{Spent: l[:2:5], Made: l[2:3:5], Mint: mint}, api.Diff{Spent: l[3:4:5], Made: l[4:], Mint: mint}
	had := copied(l, 0)
	behind, is := view.Apply(l[:2:5], a)
	want(t, "applied", behind, is, had[2:3], true)
	wantApart(t, "applied", behind, l)
	behind, is = view.Apply(l[:4:5], api.Diff{Spent: l[1:3], Made: l[4:]})
	want(t, "applied", behind, is, entries(had[0], had[3], had[4]), true)
	wantApart(t, "applied", behind, l)
	all, is := view.Join(a, b)
	want(t, "joined", all, is, api.Diff{Spent: entries(had[0], had[1], had[3]), Made: entries(had[2], had[4]), Mint: totals(tot(1, "name", 0, 2), tot(2, "name", 0, 2))}, true)
	wantApart(t, "joined", all, l, mint)
	all, is = view.Join(a)
	want(t, "one joined", all, is, a, true)
	wantApart(t, "one joined", all, l, mint)
	if !same(l, had) {
		t.Error("changed")
	}
}

// R6: lists without elements and nil ones are one, also within outputs that are held against one another.
func TestNoElements(t *testing.T) {
	t.Parallel()
	bare := func(e api.Entry) api.Entry {
		e.Output.Value.Assets, e.Output.Term.Nodes = []api.Asset{}, []api.Node{}
		return e
	}
	a, b := coins(1, 1), bare(coins(1, 1))
	for _, x := range []api.Entry{a, b} {
		for _, y := range []api.Entry{a, b} {
			wantTurned(t, "no assets", entries(x), api.Diff{Spent: entries(y)}, nil, true)
			wantTurned(t, "no assets, misfit", entries(x), api.Diff{Made: entries(y)}, nil, false)
			wantJoined(t, "no assets", api.Diff{}, true, api.Diff{Made: entries(x)}, api.Diff{Spent: entries(y)})
			wantJoined(t, "no assets, one", api.Diff{Made: entries(a)}, true, api.Diff{Made: entries(y)})
		}
		wantFound(t, entries(x), a.Ref, a.Output, true)
	}
	none := api.Diff{Spent: []api.Entry{}, Made: []api.Entry{}, Mint: []api.Total{}}
	for _, l := range [][]api.Entry{nil, {}} {
		wantTurned(t, "nothing", l, none, nil, true)
		wantTurned(t, "nothing", l, api.Diff{}, nil, true)
		wantTurned(t, "made", l, api.Diff{Spent: []api.Entry{}, Made: row(1)}, row(1), true)
	}
	wantTurned(t, "nothing", row(1), none, row(1), true)
	wantJoined(t, "nothing", api.Diff{}, true, none)
	wantJoined(t, "nothing", api.Diff{}, true, none, api.Diff{}, none)
}

// R1: each call ends, and does not panic, whatever it is given: each sort of list with each sort of diff.
func TestAll(t *testing.T) {
	t.Parallel()
	lists, diffs := wrongLists(), wrongDiffs()
	lists["nil"], lists["no elements"], lists["a view"] = nil, entries(), row(10, 20, 30)
	diffs["nothing"], diffs["a right one"] = api.Diff{}, someDiff()
	for name, l := range lists {
		for other, d := range diffs {
			if _, is := view.Apply(l, d); is != fits(l, d) {
				t.Errorf("Apply, %s, %s: %t", name, other, is)
			}
			wanted, so := undone(l, d)
			got, is := view.Undo(l, d)
			want(t, "Undo, "+name+", "+other, got, is, wanted, so)
		}
	}
	for name, a := range diffs {
		for other, b := range diffs {
			if _, is := view.Join(a, b); is != fitsBehind(a, b) {
				t.Errorf("Join, %s, %s: %t", name, other, is)
			}
		}
	}
	view.Join(make([]api.Diff, 100000)...)
}

// R1, R4: each call answers alike, whatever is asked beside it.
func TestAtOnce(t *testing.T) {
	t.Parallel()
	l := calls()
	var wanted []answers
	for _, c := range l {
		wanted = append(wanted, ask(c))
	}
	wrong := make([]int, 6)
	var done sync.WaitGroup
	for g := range wrong {
		done.Go(func() {
			for i := range l {
				i = (i + 31*g) % len(l)
				if !same(ask(l[i]), wanted[i]) {
					wrong[g]++
				}
			}
		})
	}
	done.Wait()
	if slices.Max(wrong) > 0 {
		t.Error(wrong)
	}
}

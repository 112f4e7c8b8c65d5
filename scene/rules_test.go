package scene_test

import (
	"cmp"
	"math/rand"
	"reflect"
	"slices"
	"sync"
	"testing"
	"unsafe"

	"moidore/api"
	"moidore/scene"
)

// copied is a thing in memory of its own, but for its texts; each of its lists has room for so many more elements behind it.
func copied[T any](x T, room int) T { return copyOf(reflect.ValueOf(x), room).Interface().(T) }

func copyOf(v reflect.Value, room int) reflect.Value {
	c := reflect.New(v.Type()).Elem()
	switch v.Kind() {
	case reflect.Struct:
		for i := range v.NumField() {
			c.Field(i).Set(copyOf(v.Field(i), room))
		}
	case reflect.Slice:
		l := reflect.MakeSlice(v.Type(), v.Len()+room, v.Len()+room)
		for i := range v.Len() {
			l.Index(i).Set(copyOf(v.Index(i), room))
		}
		c.Set(l.Slice(0, v.Len()))
	default:
		c.Set(v)
	}
	return c
}

// eachPart does something with each list, as far as its memory goes, and each text of a thing, the inner ones first.
func eachPart(v reflect.Value, do func(part reflect.Value)) {
	switch v.Kind() {
	case reflect.Struct:
		for i := range v.NumField() {
			eachPart(v.Field(i), do)
		}
	case reflect.Slice:
		l := v.Slice(0, v.Cap())
		for i := range l.Len() {
			eachPart(l.Index(i), do)
		}
		do(l)
	case reflect.String:
		do(v)
	}
}

// turn makes noughts of all elements of all lists of things.
func turn(things ...any) {
	for _, x := range things {
		eachPart(reflect.ValueOf(x), func(l reflect.Value) {
			for i := 0; l.Kind() == reflect.Slice && i < l.Len(); i++ {
				l.Index(i).SetZero()
			}
		})
	}
}

// room is what stands in and behind the lists of a thing, in their memory.
func room(x any) []any {
	var l []any
	eachPart(reflect.ValueOf(x), func(v reflect.Value) {
		if v.Kind() == reflect.Slice {
			l = append(l, copied(v.Interface(), 0))
		}
	})
	return l
}

// span is the memory of a list, or of a text.
type span struct{ from, to uintptr }

// spans is all memory that things stand in, rising.
func spans(things ...any) []span {
	var l []span
	for _, x := range things {
		eachPart(reflect.ValueOf(x), func(v reflect.Value) {
			switch {
			case v.Kind() == reflect.String && v.Len() > 0:
				from := uintptr(unsafe.Pointer(unsafe.StringData(v.String())))
				l = append(l, span{from, from + uintptr(v.Len())})
			case v.Kind() == reflect.Slice && v.Cap()*int(v.Type().Elem().Size()) > 0:
				l = append(l, span{v.Pointer(), v.Pointer() + uintptr(v.Cap())*v.Type().Elem().Size()})
			}
		})
	}
	slices.SortFunc(l, func(a, b span) int { return int(a.from) - int(b.from) })
	return l
}

// wantApart tells, if an answer shares memory with what was given, or within itself.
func wantApart(t *testing.T, name string, answer any, given ...any) {
	t.Helper()
	l := spans(answer)
	for i := range l {
		if i > 0 && l[i-1].to > l[i].from {
			t.Errorf("%s: two lists or texts of one answer share memory", name)
			return
		}
	}
	// The answer's are apart, so that their ends rise as well.
	for _, b := range spans(given...) {
		i, _ := slices.BinarySearchFunc(l, b.from, func(a span, from uintptr) int { return cmp.Compare(a.to, from+1) })
		if i < len(l) && l[i].from < b.to {
			t.Errorf("%s: an answer shares memory with what was given", name)
			return
		}
	}
}

// answers is what both calls answer: Output of all outputs that there are.
type answers struct {
	Scene   api.Term
	Outputs []api.Term
}

func ask(c call) answers {
	a := answers{Scene: c.of()}
	for _, o := range slices.Concat(c.tx.Body.Outputs, c.tx.Body.Return) {
		a.Outputs = append(a.Outputs, scene.Output(o))
	}
	for _, e := range c.entries {
		a.Outputs = append(a.Outputs, scene.Output(e.Output))
	}
	return a
}

func same(a, b answers) bool {
	alike := func(x, y api.Term) bool { return slices.Equal(x.Nodes, y.Nodes) }
	return alike(a.Scene, b.Scene) && slices.EqualFunc(a.Outputs, b.Outputs, alike)
}

// calls is calls of many sorts: such as tell a scene, and such as do not.
func calls() []call {
	l := []call{{}, {tx: small(), purpose: 2, place: 3}, {tx: full(), purpose: 1}, {tx: full(), entries: taken(full())}}
	for i, b := range slices.Concat(rightBends(), wrongBends()) {
		x := b.bent()
		if len(x.Body.Inputs)+len(x.Body.Outputs)+len(x.Signatures)+len(x.Redeemers) < 100 {
			l = append(l, call{x, taken(x), 1, i})
		}
	}
	r := rand.New(rand.NewSource(1402))
	for range 30 {
		c := anyCall(r)
		l = append(l, c, spoilt(r, c))
	}
	return l
}

// R3, R4, R6: what is given is as it was behind each call, also the room behind its lists; each call answers alike each time, also of copies, also where lists without elements are none.
func TestArguments(t *testing.T) {
	t.Parallel()
	for _, c := range calls() {
		wanted := ask(c)
		for _, n := range []int{3, 0} {
			x := call{copied(c.tx, n), copied(c.entries, n), c.purpose, c.place}
			had := []any{room(x.tx), room(x.entries)}
			for range 2 {
				if !same(ask(x), wanted) {
					t.Errorf("answered in two ways: %s", short(c))
				}
			}
			if !reflect.DeepEqual([]any{room(x.tx), room(x.entries)}, had) {
				t.Errorf("changed: %s", short(c))
			}
		}
	}
}

// R3: what is handed out is new memory, its list and its texts: it shares none with what was given, nor with another answer; what is written over behind a call changes nothing that was told, or is told next.
func TestNewMemory(t *testing.T) {
	t.Parallel()
	for _, c := range calls() {
		c.tx, c.entries = copied(c.tx, 2), copied(c.entries, 2)
		a, b := ask(c), ask(c)
		wantApart(t, "the scene", a.Scene, c.tx, c.entries, b)
		wantApart(t, "all answers", a, c.tx, c.entries, b)
		turn(b)
		if !same(ask(c), a) {
			t.Errorf("an answer that is written over changes the next one: %s", short(c))
		}
		kept := copied(a, 0)
		turn(c.tx, c.entries)
		if !same(a, kept) {
			t.Errorf("what was given, written over, changes an answer: %s", short(c))
		}
	}
}

// R3: outputs that share memory, within a transaction and with its entries, come out with memory of their own.
func TestSharedArguments(t *testing.T) {
	t.Parallel()
	o := termOut(termOf(listed{"bytes", "bytes"}), val(1, as(1, "name", 2), as(2, "name", 2)))
	x := small()
	x.Body.Inputs, x.Body.Outputs, x.Body.Mint = refs(ref(1, 0, 0), ref(2, 0, 0)), outputs(o, o, o), o.Value.Assets
	l := entries(entry(ref(1, 0, 0), o), entry(ref(2, 0, 0), o))
	had := room(x)
	got := scene.Of(x, l, 1, 0)
	wantTerm(t, "shared", got, plainScene(x, l, 1, 0))
	wantApart(t, "shared", got, x, l)
	wantApart(t, "an output", scene.Output(o), o)
	if !reflect.DeepEqual(room(x), had) {
		t.Error("changed")
	}
}

// R6: lists without elements and nil ones are one.
func TestNoElements(t *testing.T) {
	t.Parallel()
	wanted := scene.Of(api.Tx{}, nil, 1, 0)
	x := api.Tx{
		Body:       api.Body{Inputs: refs(), Collateral: []api.Ref{}, Return: outputs(), Outputs: []api.Output{}, Mint: []api.Asset{}},
		Signatures: []api.Signature{}, Programs: []api.Program{}, Terms: []api.Term{}, Redeemers: []api.Redeemer{},
	}
	for _, l := range [][]api.Entry{nil, {}} {
		wantTerm(t, "nothing", scene.Of(x, l, 1, 0), wanted)
		wantTerm(t, "nothing", scene.Of(api.Tx{}, l, 1, 0), wanted)
		wantNone(t, "no entries", full(), l, 1, 0)
	}
	for _, datum := range []api.DatumKind{0, 1, 2, 3} {
		o := api.Output{Datum: datum}
		p := api.Output{Datum: datum, Value: api.Value{Assets: []api.Asset{}}, Term: api.Term{Nodes: []api.Node{}}}
		wantTerm(t, "an output", scene.Output(p), scene.Output(o))
		y, z := small(), small()
		y.Body.Outputs, z.Body.Outputs = outputs(o), outputs(p)
		wantTerm(t, "an output's scene", scene.Of(z, nil, 1, 0), scene.Of(y, nil, 1, 0))
	}
	// None tells no nodes at all.
	if got := []api.Term{scene.Output(api.Output{Datum: 3}), scene.Of(full(), nil, 1, 0)}; got[0].Nodes != nil || got[1].Nodes != nil {
		t.Errorf("%v", got)
	}
}

// R1: each call ends, and does not panic, whatever it is given, also where very much is given, or nothing of it is right.
func TestAll(t *testing.T) {
	t.Parallel()
	const n = 1 << 18
	for name, x := range map[string]api.Tx{
		"many inputs":     {Body: api.Body{Inputs: make([]api.Ref, n)}},
		"many outputs":    {Body: api.Body{Outputs: make([]api.Output, n)}},
		"many minted":     {Body: api.Body{Mint: make([]api.Asset, n)}},
		"many signatures": {Signatures: make([]api.Signature, n)},
		"many hashes":     {Signatures: []api.Signature{{Chains: make([]api.Hash, n)}}},
		"many terms":      {Terms: make([]api.Term, n)},
		"many nodes":      {Terms: []api.Term{nested(n)}},
		"a long name":     {Body: api.Body{Mint: []api.Asset{{Name: string(make([]byte, n)), Amount: 1}}}},
	} {
		wantNone(t, name, x, make([]api.Entry, len(x.Body.Inputs)), 1, 0)
	}
	wantNone(t, "many entries", api.Tx{}, make([]api.Entry, n), 1, 0)
	wantNone(t, "many entries of few inputs", full(), append(taken(full()), make([]api.Entry, n)...), 1, 0)
	for _, o := range []api.Output{{Datum: 2, Term: nested(n)}, {Datum: 2, Term: nodes(many(n, api.Node{Kind: 6, Kids: most})...)}, {Value: api.Value{Assets: make([]api.Asset, n)}}} {
		if got := scene.Output(o); len(got.Nodes) > 0 {
			t.Errorf("%s", short(got))
		}
	}
	for _, b := range wrongBends() {
		x := b.bent()
		for _, p := range []api.PurposeKind{least, 0, 1, 3, most} {
			for _, place := range []int{least, -1, 0, 1 << 16, most} {
				wantNone(t, b.name, x, nil, p, place)
			}
		}
	}
}

// R1, R4: each call answers alike, whatever is asked beside it.
func TestAtOnce(t *testing.T) {
	t.Parallel()
	l := calls()
	var wanted []answers
	for _, c := range l {
		wanted = append(wanted, ask(c))
	}
	wrong := make([]int, 6)
	var done sync.WaitGroup
	for g := range wrong {
		done.Go(func() {
			for i := range l {
				i = (i + 31*g) % len(l)
				if !same(ask(l[i]), wanted[i]) {
					wrong[g]++
				}
			}
		})
	}
	done.Wait()
	if slices.Max(wrong) > 0 {
		t.Error(wrong)
	}
}

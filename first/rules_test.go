package first_test

import (
	"math/rand"
	"reflect"
	"slices"
	"sync"
	"testing"

	"moidore/api"
	"moidore/first"
)

// copied is a thing in memory of its own, but for its texts; each of its lists has room for so many more elements behind it.
func copied[T any](x T, room int) T { return copyOf(reflect.ValueOf(x), room).Interface().(T) }

func copyOf(v reflect.Value, room int) reflect.Value {
	c := reflect.New(v.Type()).Elem()
	switch v.Kind() {
	case reflect.Struct:
		for i := range v.NumField() {
			c.Field(i).Set(copyOf(v.Field(i), room))
		}
	case reflect.Slice:
		l := reflect.MakeSlice(v.Type(), v.Len()+room, v.Len()+room)
		for i := range v.Len() {
			l.Index(i).Set(copyOf(v.Index(i), room))
		}
		c.Set(l.Slice(0, v.Len()))
	default:
		c.Set(v)
	}
	return c
}

// eachList does something with each list of a thing, as far as its memory goes, the inner ones first.
func eachList(v reflect.Value, do func(l reflect.Value)) {
	switch v.Kind() {
	case reflect.Struct:
		for i := range v.NumField() {
			eachList(v.Field(i), do)
		}
	case reflect.Slice:
		l := v.Slice(0, v.Cap())
		for i := range l.Len() {
			eachList(l.Index(i), do)
		}
		do(l)
	}
}

// wipe makes noughts of all elements of all lists of things.
func wipe(things ...any) {
	for _, x := range things {
		eachList(reflect.ValueOf(x), func(l reflect.Value) {
			for i := range l.Len() {
				l.Index(i).SetZero()
			}
		})
	}
}

// room is what stands in and behind the lists of things, in their memory.
func room(things ...any) []any {
	var all []any
	for _, x := range things {
		eachList(reflect.ValueOf(x), func(l reflect.Value) { all = append(all, copied(l.Interface(), 0)) })
	}
	return all
}

// answers is what all calls answer.
type answers struct {
	Params           bool
	Hashes           []api.Hash
	Are              []bool
	Owners, Policies []api.Hash
	Reason           api.Reason
}

func answer(c ask) answers {
	a := answers{Params: first.Params(c.params), Owners: first.Owners(c.view, c.tx), Policies: first.Policies(c.tx.Body.Mint), Reason: c.reason()}
	for _, x := range c.tx.Terms {
		hash, is := first.Hash(x)
		a.Hashes, a.Are = append(a.Hashes, hash), append(a.Are, is)
	}
	return a
}

func same(a, b answers) bool {
	return a.Params == b.Params && a.Reason == b.Reason && slices.Equal(a.Hashes, b.Hashes) && slices.Equal(a.Are, b.Are) &&
		slices.Equal(a.Owners, b.Owners) && slices.Equal(a.Policies, b.Policies)
}

// asks is what may be asked, of many sorts.
func asks() []ask {
	l := []ask{{}, pay(), full(), {params: params(), view: full().view, slot: 15}}
	for _, c := range fine() {
		l = append(l, c.sealed())
	}
	for i, x := range fullBends() {
		if i%3 == 0 && x.name != "2^18 bytes and more" {
			l = append(l, bent(full(), x))
		}
	}
	r := rand.New(rand.NewSource(1504))
	for range 60 {
		l = append(l, spoilt(r, anyFine(r)))
	}
	return l
}

// R3, R4, R6: what is given is as it was behind each call, also the room behind its lists; each call answers alike each time, also of copies, also where lists without elements are none.
func TestArguments(t *testing.T) {
	t.Parallel()
	for _, c := range asks() {
		wanted := answer(c)
		for _, n := range []int{3, 0} {
			x := ask{c.params, copied(c.view, n), c.slot, copied(c.tx, n)}
			had := room(x.view, x.tx)
			for range 2 {
				if !same(answer(x), wanted) {
					t.Errorf("answered in two ways: %s", short(c))
				}
			}
			if !reflect.DeepEqual(room(x.view, x.tx), had) {
				t.Errorf("changed: %s", short(c))
			}
		}
	}
}

// R3: what is handed out does not change, when what was given, or another answer, is written over; nor does what is told next, when what was handed out is.
func TestNewMemory(t *testing.T) {
	t.Parallel()
	for _, c := range asks() {
		c.view, c.tx = copied(c.view, 2), copied(c.tx, 2)
		a, b := answer(c), answer(c)
		kept := copied(a, 0)
		b.Owners, b.Policies = b.Owners[:cap(b.Owners)], b.Policies[:cap(b.Policies)]
		for i := range b.Owners {
			b.Owners[i] = h(0xee, 1)
		}
		for i := range b.Policies {
			b.Policies[i] = h(0xdd, 1)
		}
		if !same(a, kept) || !same(answer(c), kept) {
			t.Errorf("an answer that is written over changes another one: %s", short(c))
		}
		wipe(c.view, c.tx)
		if !same(a, kept) {
			t.Errorf("what was given, written over, changes an answer: %s", short(c))
		}
	}
}

// R3: assets that are policies' already, in order and each once, come out in new memory too.
func TestNewPolicies(t *testing.T) {
	t.Parallel()
	l := []api.Asset{as(h(1, 0), "", 1), as(h(2, 0), "", 1)}
	got := first.Policies(l)
	got[0] = h(9, 9)
	wantHashes(t, "again", first.Policies(l), h(1, 0), h(2, 0))
	l[1].Policy = h(8, 8)
	wantHashes(t, "as they were told", got, h(9, 9), h(2, 0))
}

// emptied is a thing whose nil lists are lists without elements.
func emptied[T any](x T) T {
	v := reflect.ValueOf(&x).Elem()
	fill(v)
	return x
}

func fill(v reflect.Value) {
	switch v.Kind() {
	case reflect.Struct:
		for i := range v.NumField() {
			fill(v.Field(i))
		}
	case reflect.Slice:
		if v.Len() == 0 {
			v.Set(reflect.MakeSlice(v.Type(), 0, 0))
		}
		for i := range v.Len() {
			fill(v.Index(i))
		}
	}
}

// R6: lists without elements and nil ones are one.
func TestNoElements(t *testing.T) {
	t.Parallel()
	for _, c := range asks() {
		wanted := answer(c)
		c = ask{c.params, emptied(copied(c.view, 0)), c.slot, emptied(copied(c.tx, 0))}
		if got := answer(c); !same(got, wanted) {
			t.Errorf("%s, not %s", short(got), short(wanted))
		}
	}
	for _, c := range []ask{{}, pay()} {
		c.tx.Body.Outputs, c.params = nil, cheap()
		wanted := c.sealed().reason()
		c.tx = emptied(c.tx)
		wantReason(t, "nothing", c.sealed(), wanted)
	}
	wantHashes(t, "no owners", first.Owners([]api.Entry{}, emptied(api.Tx{})))
}

// R1: each call ends, and does not panic, whatever it is given, also where very much is given, or nothing of it is right.
func TestAll(t *testing.T) {
	t.Parallel()
	const n = 1 << 17
	c := full().sealed()
	for name, x := range map[string]api.Tx{
		"nothing":         {},
		"many inputs":     {Body: api.Body{Inputs: make([]api.Ref, n)}},
		"many collateral": {Body: api.Body{Collateral: make([]api.Ref, n)}},
		"many outputs":    {Body: api.Body{Outputs: make([]api.Output, n)}},
		"many Returns":    {Body: api.Body{Return: make([]api.Output, n)}},
		"many minted":     {Body: api.Body{Mint: make([]api.Asset, n)}},
		"many signatures": {Signatures: make([]api.Signature, n)},
		"many hashes":     {Signatures: []api.Signature{{Chains: make([]api.Hash, n)}}},
		"many programs":   {Programs: make([]api.Program, n)},
		"many terms":      {Terms: make([]api.Term, n)},
		"many nodes":      {Terms: []api.Term{nested(n)}},
		"many redeemers":  {Redeemers: make([]api.Redeemer, n)},
	} {
		wanted := api.ReasonShape
		if name == "nothing" {
			wanted = api.ReasonInputs
		}
		for _, l := range [][]api.Entry{nil, c.view, make([]api.Entry, 1), make([]api.Entry, n)} {
			if got := first.Ask(params(), l, 15, x); got != wanted && (got != api.ReasonShape || len(l) < n) {
				t.Errorf("%s: %d", name, got)
			}
			first.Ask(api.Params{}, l, least, x)
			first.Owners(l, x)
		}
		first.Policies(x.Body.Mint)
		for _, y := range x.Terms {
			if _, is := first.Hash(y); is {
				t.Errorf("%s: a hash", name)
			}
		}
	}
	if got := first.Ask(params(), make([]api.Entry, n), 15, c.tx); got != api.ReasonShape {
		t.Errorf("many entries: %d", got)
	}
	wantHashes(t, "many assets", first.Policies(make([]api.Asset, n)), api.Hash{})
}

// R1: numbers past all ends, in each part of what is given.
func TestEnds(t *testing.T) {
	t.Parallel()
	c := full().sealed()
	var numbers func(v reflect.Value)
	numbers = func(v reflect.Value) {
		switch v.Kind() {
		case reflect.Struct:
			for i := range v.NumField() {
				numbers(v.Field(i))
			}
		case reflect.Slice:
			for i := range v.Len() {
				numbers(v.Index(i))
			}
		case reflect.Int, reflect.Int64:
			old := v.Int()
			for _, n := range []int64{least, least + 1, -1 << 32, -1, 0, 1 << 31, 1 << 32, 1 << 40, 1 << 62, most - 1, most} {
				v.SetInt(n)
				if got, wanted := c.reason(), plain(c); got != wanted {
					t.Errorf("%d for %d: %d, not %d", n, old, got, wanted)
				}
			}
			v.SetInt(old)
		}
	}
	numbers(reflect.ValueOf(&c.params).Elem())
	numbers(reflect.ValueOf(&c.tx).Elem())
	numbers(reflect.ValueOf(&c.view).Elem())
	wantAlone(t, "in the end", c, api.Fine)
}

// R1, R4: each call answers alike, whatever is asked beside it.
func TestAtOnce(t *testing.T) {
	t.Parallel()
	l := asks()
	var wanted []answers
	for _, c := range l {
		wanted = append(wanted, answer(c))
	}
	wrong := make([]int, 6)
	var done sync.WaitGroup
	for g := range wrong {
		done.Go(func() {
			for i := range l {
				i = (i + 31*g) % len(l)
				if !same(answer(l[i]), wanted[i]) {
					wrong[g]++
				}
			}
		})
	}
	done.Wait()
	if slices.Max(wrong) > 0 {
		t.Error(wrong)
	}
}

package scene_test

import (
	"fmt"
	"slices"
	"testing"

	"moidore/api"
	"moidore/scene"
)

// wantEntered wants of the full transaction with these entries just the scene that is told plainly, or none.
func wantEntered(t *testing.T, name string, x api.Tx, l []api.Entry, so bool) {
	t.Helper()
	for _, p := range []api.PurposeKind{api.PurposeSpend, api.PurposeMint} {
		if so {
			wantScene(t, name, x, l, p, 1)
		} else {
			wantNone(t, name, x, l, p, 1)
		}
	}
}

// P14.1: entries are as many as the inputs, and stand as these do.
func TestEntries(t *testing.T) {
	t.Parallel()
	x := full()
	l := taken(x)
	wantEntered(t, "just these", x, l, true)
	wantEntered(t, "none", x, nil, false)
	wantEntered(t, "an empty list", x, entries(), false)
	for i := range l {
		wantEntered(t, fmt.Sprint("one less, ", i), x, slices.Delete(slices.Clone(l), i, i+1), false)
		wantEntered(t, fmt.Sprint("just the first ", i), x, l[:i], false)
		wantEntered(t, fmt.Sprint("just one, ", i), x, l[i:i+1], false)
		for k := range len(l) + 1 {
			wantEntered(t, fmt.Sprint(i, " twice, at ", k), x, slices.Insert(slices.Clone(l), k, l[i]), false)
			wantEntered(t, fmt.Sprint("another one more, at ", k), x, slices.Insert(slices.Clone(l), k, entry(ref(0x15, 0, k), keyOut(val(1)))), false)
		}
		for k := range i {
			turned := slices.Clone(l)
			turned[i], turned[k] = turned[k], turned[i]
			wantEntered(t, fmt.Sprint(i, " for ", k), x, turned, false)
			turned[i] = l[i]
			wantEntered(t, fmt.Sprint(i, " twice, ", k, " not"), x, turned, false)
		}
	}
	back := slices.Clone(l)
	slices.Reverse(back)
	wantEntered(t, "turned round", x, back, false)
	wantEntered(t, "all twice", x, slices.Concat(l, l), false)
	x.Body.Inputs = nil
	wantEntered(t, "no inputs", x, nil, true)
	wantEntered(t, "no inputs, an empty list", x, entries(), true)
	wantEntered(t, "no inputs, an entry", x, l[:1], false)
	wantEntered(t, "no inputs, a zero entry", x, entries(api.Entry{}), false)
	wantEntered(t, "no inputs, those of the collateral", x, entries(entry(x.Body.Collateral[0], keyOut(val(1)))), false)
}

// P14.1: inputs that fall, or stand twice, ask for entries that do.
func TestEntriesThatDoNotRise(t *testing.T) {
	t.Parallel()
	x := full()
	a, b := entry(ref(2, 0, 0), keyOut(val(1))), entry(ref(1, 0, 0), hashOut(h(1, 1), val(2)))
	other := entry(a.Ref, keyOut(val(3)))
	x.Body.Inputs = refs(a.Ref, b.Ref, a.Ref)
	wantEntered(t, "as they stand", x, entries(a, b, a), true)
	wantEntered(t, "one ref of two outputs", x, entries(a, b, other), true)
	wantEntered(t, "rising", x, entries(b, a, a), false)
	wantEntered(t, "each once", x, entries(a, b), false)
	x.Body.Inputs = refs(a.Ref, b.Ref)
	wantEntered(t, "falling", x, entries(a, b), true)
	wantEntered(t, "rising", x, entries(b, a), false)
}

// P14.1: an entry's ref is just the input's, in each bit and in the place.
func TestEntriesOfOtherRefs(t *testing.T) {
	t.Parallel()
	x := full()
	for i := range x.Body.Inputs {
		for bit := range 256 {
			l := taken(x)
			l[i].Ref.Tx[bit/8] ^= 1 << (bit % 8)
			wantNone(t, fmt.Sprint("the bit ", bit, " of ", i), x, l, api.PurposeSpend, 0)
		}
		for _, n := range []int{-1, 1, 256, 1 << 16, 1 << 32, least} {
			l := taken(x)
			l[i].Ref.Place += n
			wantNone(t, fmt.Sprint(n, " places from ", i), x, l, api.PurposeSpend, 0)
		}
		l := taken(x)
		l[i].Ref = x.Body.Collateral[0]
		wantNone(t, fmt.Sprint("a collateral's for ", i), x, l, api.PurposeSpend, 0)
		l[i].Ref = api.Ref{}
		wantNone(t, fmt.Sprint("a zero one for ", i), x, l, api.PurposeSpend, 0)
	}
}

// P14.1: an entry's output is right, and stands in the scene, at each place.
func TestEntriesOutputs(t *testing.T) {
	t.Parallel()
	x := full()
	for i := range x.Body.Inputs {
		for name, o := range rightOutputs() {
			l := taken(x)
			l[i].Output = o
			wantEntered(t, fmt.Sprint(name, " at ", i), x, l, true)
		}
		for name, o := range wrongOutputs() {
			l := taken(x)
			l[i].Output = o
			wantEntered(t, fmt.Sprint(name, " at ", i), x, l, false)
		}
	}
}

// P14.1: what an entry holds stands in the scene as Output tells it, behind its ref.
func TestEntriesAsOutputs(t *testing.T) {
	t.Parallel()
	x := small()
	x.Body.Inputs = refs(ref(1, 2, 3))
	x.Body.Outputs = nil
	for name, o := range rightOutputs() {
		e := termOf(listed{listed{hx(1, 2), int64(3)}, scene.Output(o)})
		wantTerm(t, name, scene.Of(x, entries(entry(ref(1, 2, 3), o)), 1, 0), termOf(listed{
			plainHash(idOf(x)), listed{e}, listed{}, int64(0), int64(0), int64(0), listed{}, listed{}, int64(1), int64(0),
		}))
		y := small()
		y.Body.Outputs = outputs(o, o)
		wantTerm(t, name, scene.Of(y, nil, 2, 1), termOf(listed{
			plainHash(idOf(y)), listed{}, listed{scene.Output(o), scene.Output(o)}, int64(0), int64(0), int64(0), listed{}, listed{}, int64(2), int64(1),
		}))
	}
}

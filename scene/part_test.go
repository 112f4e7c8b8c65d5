package scene_test

import (
	"fmt"
	"slices"
	"strings"
	"testing"

	"moidore/api"
	"moidore/run"
	"moidore/scene"
	"moidore/term"
	"moidore/tx"
)

// greatest is a right transaction with as many of each thing as may be, each as great as it may be.
func greatest() api.Tx {
	o := termOut(deepest(), val(most, manyAssets(30)...))
	x := api.Tx{Body: api.Body{Fee: most, From: 1 << 40, To: 1 << 40, Mint: manyAssets(30)}}
	for i := range 30 {
		x.Body.Inputs = append(x.Body.Inputs, ref(byte(i), 255, 30))
		x.Body.Outputs = append(x.Body.Outputs, o)
	}
	for i := range 60 {
		x.Signatures = append(x.Signatures, plainSig(byte(i), 35))
	}
	return x
}

// deepest is a right term of 100 nodes, 16 deep.
func deepest() api.Term {
	l := nested(16).Nodes
	l[0].Kids += 84
	return api.Term{Nodes: append(l, many(84, api.Node{Kind: api.TermInt, Int: most})...)}
}

// heaviest is a right term of 100 nodes with as many bytes as may be.
func heaviest() api.Term {
	return termOf(append(listed{}, slices.Repeat([]any{strings.Repeat("w", 200)}, 99)...))
}

// P14.3: the greatest scenes fit, how many nodes they have, and how deep they are.
func TestGreatest(t *testing.T) {
	t.Parallel()
	x := greatest()
	var l []api.Entry
	for _, r := range x.Body.Inputs {
		l = append(l, entry(r, termOut(deepest(), val(most, manyAssets(30)...))))
	}
	got := scene.Of(x, l, api.PurposeMint, 65535)
	wantTerm(t, "the greatest", got, plainScene(x, l, api.PurposeMint, 65535))
	// An output: its list, its address of 2, coin, 30 assets of 4 and their list, the datum's tag and 100. An entry: its list, and a ref of 3.
	const output = 1 + 2 + 1 + 121 + 101
	if n, wanted := len(got.Nodes), 1+1+(1+30*(4+output))+(1+30*output)+3+121+61+2; n != wanted {
		t.Errorf("%d nodes, not %d", n, wanted)
	}
	if deep := term.Deep(got); deep != 21 {
		t.Errorf("%d deep", deep)
	}
	if !term.Fits(got, api.MaxScene, api.SceneDeep) {
		t.Error("it does not fit")
	}
	if !tx.Right(x) {
		t.Error("it is not right")
	}
}

// P14.3: with the heaviest data in all that is taken.
func TestHeaviest(t *testing.T) {
	t.Parallel()
	x := greatest()
	x.Body.Outputs = many(7, termOut(heaviest(), val(most, manyAssets(30)...)))
	var l []api.Entry
	for _, r := range x.Body.Inputs {
		l = append(l, entry(r, termOut(heaviest(), val(most, manyAssets(30)...))))
	}
	got := scene.Of(x, l, api.PurposeSpend, 0)
	wantTerm(t, "the heaviest", got, plainScene(x, l, api.PurposeSpend, 0))
	if len(got.Nodes) == 0 || !term.Fits(got, api.MaxScene, api.SceneDeep) {
		t.Error("it does not fit")
	}
}

// P14.3: all scenes of right transactions fit.
func TestFits(t *testing.T) {
	t.Parallel()
	for _, b := range rightBends() {
		x := b.bent()
		if got := scene.Of(x, taken(x), api.PurposeSpend, 65535); !term.Fits(got, api.MaxScene, api.SceneDeep) {
			t.Errorf("%s: it does not fit", b.name)
		}
	}
}

// P14.3: a program that is shown a scene finds the parts where they stand.
func TestShown(t *testing.T) {
	t.Parallel()
	x := full()
	id := idOf(x)
	s := scene.Of(x, taken(x), api.PurposeMint, 258)
	whole := api.Budget{Steps: api.MaxBudget, Memory: api.MaxBudget}
	for at, n := range map[int64]int64{3: x.Body.Fee, 4: x.Body.From, 5: x.Body.To, 8: 2, 9: 258} {
		p := prog(1, api.Instr{Op: api.OpPushInt, Num: at}, api.Instr{Op: api.OpKid}, api.Instr{Op: api.OpAsInt}, api.Instr{Op: api.OpPushInt, Num: n}, api.Instr{Op: api.OpIntSame}, api.Instr{Op: api.OpDone})
		if out := run.Run(p, whole, s); out.Kind != api.OutAccepts {
			t.Errorf("the kid %d: %v", at, out)
		}
	}
	p := prog(1, api.Instr{Op: api.OpPushInt}, api.Instr{Op: api.OpKid}, api.Instr{Op: api.OpPushTerm, Term: termOf(string(id[:]))}, api.Instr{Op: api.OpTermSame}, api.Instr{Op: api.OpDone})
	if out := run.Run(p, whole, s); out.Kind != api.OutAccepts {
		t.Errorf("the id: %v", out)
	}
}

// kidsChanged is at which places the scenes of two transactions, each signed by one seed, with entries of their inputs, differ.
func kidsChanged(a, b api.Tx) []int {
	a, b = signed(a, "one"), signed(b, "one")
	k, m := term.Kids(scene.Of(a, taken(a), 1, 0)), term.Kids(scene.Of(b, taken(b), 1, 0))
	l := []int{}
	for i := range max(len(k), len(m)) {
		if i >= len(k) || i >= len(m) || !term.Same(k[i], m[i]) {
			l = append(l, i)
		}
	}
	return l
}

// P14.3: what changes which parts of a scene. What plays no part in it changes the id alone, and that just where it is in the body.
func TestPlaysNoPart(t *testing.T) {
	t.Parallel()
	for _, x := range []struct {
		name   string
		places []int
		do     func(*api.Tx)
	}{
		{"no Collateral", []int{0}, func(t *api.Tx) { t.Body.Collateral = nil }},
		{"other Collateral", []int{0}, func(t *api.Tx) { t.Body.Collateral = refs(ref(9, 9, 9)) }},
		{"more Collateral", []int{0}, func(t *api.Tx) { t.Body.Collateral = many(30, ref(9, 9, 9)) }},
		{"no Return", []int{0}, func(t *api.Tx) { t.Body.Return = nil }},
		{"another Return", []int{0}, func(t *api.Tx) { t.Body.Return = outputs(hashOut(h(1, 1), val(9, as(1, "a", 2)))) }},
		{"another hash of its data", []int{0}, func(t *api.Tx) { t.Body.Data = h(7, 7) }},
		{"no Programs", nil, func(t *api.Tx) { t.Programs = nil }},
		{"other Programs", nil, func(t *api.Tx) { t.Programs = many(10, prog(3, api.Instr{Op: api.OpFail})) }},
		{"no Terms", nil, func(t *api.Tx) { t.Terms = nil }},
		{"other Terms", nil, func(t *api.Tx) { t.Terms = many(10, nested(16)) }},
		{"no Redeemers", nil, func(t *api.Tx) { t.Redeemers = nil }},
		{"other Redeemers", nil, func(t *api.Tx) { t.Redeemers = many(60, redeemer(2, 65535, wide(9))) }},
		{"another budget", nil, func(t *api.Tx) { t.Redeemers[0].Budget = api.Budget{} }},
		{"not valid", nil, func(t *api.Tx) { t.Valid = false }},
		{"none of all these but the flag", []int{0}, func(t *api.Tx) {
			t.Body.Collateral, t.Body.Return, t.Programs, t.Terms, t.Redeemers = nil, nil, nil, nil, nil
		}},
		{"another input", []int{0, 1}, func(t *api.Tx) { t.Body.Inputs[1].Place++ }},
		{"another output", []int{0, 2}, func(t *api.Tx) { t.Body.Outputs[1].Value.Coin++ }},
		{"another Fee", []int{0, 3}, func(t *api.Tx) { t.Body.Fee++ }},
		{"another From", []int{0, 4}, func(t *api.Tx) { t.Body.From++ }},
		{"another To", []int{0, 5}, func(t *api.Tx) { t.Body.To++ }},
		{"another amount minted", []int{0, 6}, func(t *api.Tx) { t.Body.Mint[0].Amount++ }},
	} {
		y := full()
		x.do(&y)
		if got := kidsChanged(full(), y); !slices.Equal(got, x.places) {
			t.Errorf("%s: at %d, not %d", x.name, got, x.places)
		}
	}
}

// P14.3: what plays no part, with the signatures as they were: these tell other owners just where the id is another one.
func TestPlaysNoPartAsSigned(t *testing.T) {
	t.Parallel()
	x := full()
	s := scene.Of(x, taken(x), 2, 5)
	for _, b := range slices.Concat(rightBends(), parts()) {
		y := b.bent()
		y.Body.Inputs, y.Signatures = x.Body.Inputs, x.Signatures
		z := y
		z.Body = x.Body
		wantTerm(t, b.name+", but the body", scene.Of(z, taken(x), 2, 5), s)
		y.Body.Outputs, y.Body.Fee, y.Body.From, y.Body.To, y.Body.Mint = x.Body.Outputs, x.Body.Fee, x.Body.From, x.Body.To, x.Body.Mint
		got := term.Kids(scene.Of(y, taken(x), 2, 5))
		for i, k := range term.Kids(s) {
			if len(got) != 10 || i != 0 && i != 7 && !term.Same(k, got[i]) {
				t.Fatalf("%s: the kid %d", b.name, i)
			}
		}
		if same := idOf(x) == idOf(y); same != term.Same(got[0], termOf(plainHash(idOf(x)))) || same != term.Same(got[7], termOf(listed{key("one"), key("other")})) {
			t.Errorf("%s: the id, or the owners", b.name)
		}
	}
}

// parts is collateral, returns, programs, terms, redeemers and flags of many sorts.
func parts() []bend {
	var l bends
	for i := range 5 {
		for flag := range 2 {
			l.add(fmt.Sprint("the parts ", i, " ", flag), func(t *api.Tx) {
				t.Valid = flag == 1
				t.Body.Collateral = many(i, ref(byte(i), 0, i))
				t.Programs, t.Terms = many(i, t.Programs[0]), many(2*i, termOf(int64(i)))
				t.Redeemers = many(10*i, redeemer(2, i, termOf("r")))
			})
		}
	}
	return l
}

package scene_test

import (
	"fmt"
	"strings"
	"testing"

	"moidore/api"
	"moidore/pack"
	"moidore/scene"
	"moidore/term"
)

// P14.2: outputs, written down by hand: each sort of address, of assets, of data.
func TestOutput(t *testing.T) {
	t.Parallel()
	key, program := tagged{0, listed{hx(1, 2)}}, tagged{1, listed{hx(3, 4)}}
	nought := strings.Repeat("\x00", 32)
	for name, x := range map[string]struct {
		o    api.Output
		told listed
	}{
		"nothing":          {api.Output{}, listed{tagged{0, listed{nought}}, int64(0), listed{}, tagged{0, nil}}},
		"to a key":         {keyOut(val(5)), listed{key, int64(5), listed{}, tagged{0, nil}}},
		"to a program":     {api.Output{Address: api.Address{Program: true, Hash: h(3, 4)}}, listed{program, int64(0), listed{}, tagged{0, nil}}},
		"the most coins":   {keyOut(val(most)), listed{key, int64(most), listed{}, tagged{0, nil}}},
		"one asset":        {keyOut(val(1, as(9, "ab", 7))), listed{key, int64(1), listed{listed{hx(9, 0), "ab", int64(7)}}, tagged{0, nil}}},
		"two assets":       {keyOut(val(1, as(1, "", most), as(1, "\x00", 1))), listed{key, int64(1), listed{listed{hx(1, 0), "", int64(most)}, listed{hx(1, 0), "\x00", int64(1)}}, tagged{0, nil}}},
		"a hash":           {hashOut(h(7, 8), val(2)), listed{program, int64(2), listed{}, tagged{1, listed{hx(7, 8)}}}},
		"a hash, noughts":  {hashOut(api.Hash{}, val(2)), listed{program, int64(2), listed{}, tagged{1, listed{nought}}}},
		"an int":           {termOut(termOf(int64(-3)), val(2)), listed{tagged{1, listed{hx(5, 6)}}, int64(2), listed{}, tagged{2, listed{int64(-3)}}}},
		"bytes":            {termOut(termOf("xy"), val(2)), listed{tagged{1, listed{hx(5, 6)}}, int64(2), listed{}, tagged{2, listed{"xy"}}}},
		"a real":           {termOut(realOf(1<<63), val(2)), listed{tagged{1, listed{hx(5, 6)}}, int64(2), listed{}, tagged{2, listed{realOf(1 << 63)}}}},
		"a list":           {termOut(termOf(listed{int64(1), "a"}), val(2)), listed{tagged{1, listed{hx(5, 6)}}, int64(2), listed{}, tagged{2, listed{listed{int64(1), "a"}}}}},
		"a tag":            {termOut(termOf(tagged{1, listed{int64(1)}}), val(2)), listed{tagged{1, listed{hx(5, 6)}}, int64(2), listed{}, tagged{2, listed{tagged{1, listed{int64(1)}}}}}},
		"a map":            {termOut(pairs(1), val(2)), listed{tagged{1, listed{hx(5, 6)}}, int64(2), listed{}, tagged{2, listed{pairs(1)}}}},
		"a term, to a key": {api.Output{Datum: 2, Term: termOf("")}, listed{tagged{0, listed{nought}}, int64(0), listed{}, tagged{2, listed{""}}}},
	} {
		wantTerm(t, name, scene.Output(x.o), termOf(x.told))
	}
}

// P14.2: a whole output, node by node.
func TestOutputNodes(t *testing.T) {
	t.Parallel()
	wantTerm(t, "all parts", scene.Output(termOut(termOf(tagged{5, listed{"q"}}), val(6, as(8, "n", 9)))), nodes(
		api.Node{Kind: api.TermList, Kids: 4},
		api.Node{Kind: api.TermTag, Int: 1, Kids: 1}, api.Node{Kind: api.TermBytes, Bytes: hx(5, 6)},
		api.Node{Kind: api.TermInt, Int: 6},
		api.Node{Kind: api.TermList, Kids: 1}, api.Node{Kind: api.TermList, Kids: 3},
		api.Node{Kind: api.TermBytes, Bytes: hx(8, 0)}, api.Node{Kind: api.TermBytes, Bytes: "n"}, api.Node{Kind: api.TermInt, Int: 9},
		api.Node{Kind: api.TermTag, Int: 2, Kids: 1}, api.Node{Kind: api.TermTag, Int: 5, Kids: 1}, api.Node{Kind: api.TermBytes, Bytes: "q"},
	))
}

// P14.2: right outputs of all sorts have just the term that is told plainly; no two have one.
func TestRightOutputs(t *testing.T) {
	t.Parallel()
	seen := map[string]string{}
	for name, o := range rightOutputs() {
		got := scene.Output(o)
		wantTerm(t, name, got, termOf(plainOutput(o)))
		if !term.Fits(got, api.MaxScene, api.SceneDeep) {
			t.Errorf("%s does not fit", name)
		}
		s := fmt.Sprintf("%+v", o) // lists without elements and nil ones are written alike
		for other, its := range seen {
			if same := term.Same(scene.Output(rightOutputs()[other]), got); same != (its == s) {
				t.Errorf("%s and %s: one term, %t", name, other, same)
			}
		}
		seen[name] = s
	}
}

// P14.2: outputs that are not right have none.
func TestWrongOutputs(t *testing.T) {
	t.Parallel()
	for name, o := range wrongOutputs() {
		if pack.RightOutput(o) {
			t.Errorf("%s is right", name)
		}
		if got := scene.Output(o); len(got.Nodes) > 0 {
			t.Errorf("%s: %s", name, short(got))
		}
	}
}

// P14.2: with each Hash and Term a Datum that is not theirs.
func TestOutputData(t *testing.T) {
	t.Parallel()
	for datum := api.DatumKind(-2); datum < 6; datum++ {
		for _, x := range []api.Hash{{}, h(1, 0), h(0, 1)} {
			for _, d := range []api.Term{{}, termOf(int64(1)), wide(100), wide(101), nested(16), nested(17)} {
				o := api.Output{Datum: datum, Hash: x, Term: d}
				wanted := api.Term{}
				switch {
				case datum == 0 && x == api.Hash{} && len(d.Nodes) == 0, datum == 1 && len(d.Nodes) == 0, datum == 2 && x == api.Hash{} && term.Right(d):
					wanted = termOf(plainOutput(o))
				}
				wantTerm(t, short(o), scene.Output(o), wanted)
			}
		}
	}
}

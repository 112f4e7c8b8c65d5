package pack

import (
	"math/rand"
	"strings"
	"testing"

	"moidore/api"
	"moidore/wire"
)

// P7.4: how many bytes an output has.
func TestLong(t *testing.T) {
	for name, want := range map[string]struct {
		o api.Output
		n int
	}{
		"nothing at all":           {api.Output{}, 44},
		"no assets":                {plainOut(val(5)), 44},
		"the most coins":           {plainOut(val(most)), 44},
		"an asset without a name":  {plainOut(val(5, as(1, "", 1))), 44 + 42},
		"an asset with a name":     {plainOut(val(5, as(1, "abc", 1))), 44 + 45},
		"30 assets":                {plainOut(val(5, some(30)...)), 44 + 30*42 + 15*32},
		"a hash":                   {hashOut(val(5), h(1, 1)), 44 + 32},
		"a hash of noughts":        {hashOut(val(5), api.Hash{}), 44 + 32},
		"30 assets, a hash":        {hashOut(val(5, some(30)...), h(1, 1)), 44 + 30*42 + 15*32 + 32},
		"an int":                   {termOut(val(5), num(1)), 44 + 9},
		"200 bytes":                {termOut(val(5), text(strings.Repeat("x", 200))), 44 + 203},
		"a tag of a list":          {termOut(val(5), tag(1, list())), 44 + 7 + 3},
		"30 assets, 100 nodes":     {termOut(val(5, some(30)...), list(nums(99)...)), 44 + 30*42 + 15*32 + 3 + 99*9},
		"a coin below 0":           {plainOut(val(-1)), 0},
		"31 assets":                {plainOut(val(5, some(31)...)), 0},
		"the datum 3":              {api.Output{Datum: 3}, 0},
		"no term":                  {termOut(val(5), nodes()), 0},
		"a term that is not right": {termOut(val(5), nested(17)), 0},
	} {
		if Long(want.o) != want.n {
			t.Errorf("%s: %d, not %d", name, Long(want.o), want.n)
		}
	}
}

// P7.4: held against how many bytes are put.
func TestLongPut(t *testing.T) {
	hold := func(name string, o api.Output) {
		t.Helper()
		b, e := bytesPut(func(w *wire.Writer) { PutOutput(w, o) })
		if Long(o) != len(b) || (Long(o) > 0) != (e == api.OK) || (Long(o) > 0) != RightOutput(o) {
			t.Errorf("%s: %d, not %d", name, Long(o), len(b))
		}
	}
	for name, o := range rightOutputs() {
		hold(name, o)
	}
	for name, o := range wrongOutputs() {
		hold(name, o)
		if Long(o) != 0 {
			t.Errorf("%s: %d", name, Long(o))
		}
	}
	r := rand.New(rand.NewSource(704))
	for range 2000 {
		hold("any", anyOutput(r))
	}
}

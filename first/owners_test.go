package first_test

import (
	"fmt"
	"math/rand"
	"slices"
	"testing"

	"moidore/api"
	"moidore/first"
)

func wantHashes(t *testing.T, name string, got []api.Hash, wanted ...api.Hash) {
	t.Helper()
	if !slices.Equal(got, wanted) {
		t.Errorf("%s: %x, not %x", name, got, wanted)
	}
}

// taking is a transaction with these inputs and this collateral.
func taking(inputs, collateral []api.Ref) api.Tx {
	return api.Tx{Body: api.Body{Inputs: inputs, Collateral: collateral}}
}

func refs(l ...api.Ref) []api.Ref { return l }

// P15.1: whose keys lock inputs and collateral.
func TestOwners(t *testing.T) {
	t.Parallel()
	a, b, c := h(1, 2), h(2, 1), h(2, 2)
	program := api.Output{Address: api.Address{Program: true, Hash: h(3, 3)}}
	same := api.Output{Address: api.Address{Program: true, Hash: a}}
	l := []api.Entry{
		entry(ref(1, 0), keyed(c, val(1))), entry(ref(1, 1), keyed(a, val(2))), entry(ref(2, 0), keyed(b, val(3))), entry(ref(2, 1), keyed(a, val(4))),
		entry(ref(3, 0), program), entry(ref(3, 1), same), entry(ref(4, 0), api.Output{}),
	}
	for name, x := range map[string]struct {
		owners   []api.Hash
		in, risk []api.Ref
	}{
		"nothing":                       {},
		"one input":                     {in: refs(ref(1, 0)), owners: []api.Hash{c}},
		"one collateral":                {risk: refs(ref(1, 0)), owners: []api.Hash{c}},
		"one of each":                   {in: refs(ref(1, 0)), risk: refs(ref(2, 0)), owners: []api.Hash{b, c}},
		"one of each, turned":           {in: refs(ref(2, 0)), risk: refs(ref(1, 0)), owners: []api.Hash{b, c}},
		"three, not rising":             {in: refs(ref(1, 0), ref(2, 0), ref(1, 1)), owners: []api.Hash{a, b, c}},
		"a key twice":                   {in: refs(ref(1, 1), ref(2, 1)), owners: []api.Hash{a}},
		"a key of both":                 {in: refs(ref(1, 1)), risk: refs(ref(2, 1)), owners: []api.Hash{a}},
		"one ref of both":               {in: refs(ref(1, 1)), risk: refs(ref(1, 1)), owners: []api.Hash{a}},
		"a ref three times":             {in: refs(ref(1, 1), ref(1, 1), ref(1, 1)), owners: []api.Hash{a}},
		"programs":                      {in: refs(ref(3, 0)), risk: refs(ref(3, 0), ref(3, 1))},
		"programs and keys":             {in: refs(ref(3, 0), ref(1, 1)), risk: refs(ref(3, 1), ref(2, 0)), owners: []api.Hash{a, b}},
		"a program of a key's hash":     {in: refs(ref(3, 1), ref(1, 0)), owners: []api.Hash{c}},
		"a key of noughts":              {in: refs(ref(4, 0), ref(1, 0)), owners: []api.Hash{{}, c}},
		"some that are not there":       {in: refs(ref(9, 0), ref(1, 0), ref(1, 2)), risk: refs(ref(0, 0), ref(2, 0)), owners: []api.Hash{b, c}},
		"none that is there":            {in: refs(ref(9, 0)), risk: refs(ref(1, -1), ref(1, 31))},
		"all":                           {in: refs(ref(1, 0), ref(1, 1), ref(2, 0), ref(2, 1), ref(3, 0), ref(3, 1), ref(4, 0)), owners: []api.Hash{{}, a, b, c}},
		"all, and turned as collateral": {in: refs(ref(1, 0), ref(1, 1), ref(2, 0)), risk: refs(ref(4, 0), ref(3, 1), ref(3, 0), ref(2, 1)), owners: []api.Hash{{}, a, b, c}},
	} {
		wantHashes(t, name, first.Owners(l, taking(x.in, x.risk)), x.owners...)
		wantHashes(t, name+", of no entries", first.Owners(nil, taking(x.in, x.risk)))
		back := slices.Clone(l)
		slices.Reverse(back)
		wantHashes(t, name+", of entries that fall", first.Owners(back, taking(x.in, x.risk)), x.owners...)
		wantHashes(t, name+", of entries twice", first.Owners(slices.Concat(l, back), taking(x.in, x.risk)), x.owners...)
	}
}

// P15.1: of two entries of one ref the first one counts, right or not.
func TestOwnersOfOneRef(t *testing.T) {
	t.Parallel()
	a, b := keyed(h(1, 1), val(1)), keyed(h(2, 2), val(-1))
	program := api.Output{Address: api.Address{Program: true, Hash: h(3, 3)}, Datum: 9}
	x := taking(refs(ref(1, 0)), refs(ref(2, 0)))
	for name, y := range map[string]struct {
		l      []api.Output
		owners []api.Hash
	}{
		"a, b": {[]api.Output{a, b}, []api.Hash{h(1, 1)}}, "b, a": {[]api.Output{b, a}, []api.Hash{h(2, 2)}}, "a, a": {[]api.Output{a, a}, []api.Hash{h(1, 1)}},
		"a, program": {[]api.Output{a, program}, []api.Hash{h(1, 1)}}, "program, a": {[]api.Output{program, a}, nil}, "program, a, b": {[]api.Output{program, a, b}, nil},
	} {
		for _, at := range []api.Ref{ref(1, 0), ref(2, 0)} {
			l := []api.Entry{entry(ref(0, 0), program)}
			for _, o := range y.l {
				l = append(l, entry(at, o), entry(ref(9, 9), b))
			}
			wantHashes(t, name, first.Owners(l, x), y.owners...)
		}
	}
}

// P15.1: nothing else of the transaction plays a part in its owners.
func TestOwnersOfFull(t *testing.T) {
	t.Parallel()
	wanted := []api.Hash{keys[1], keys[2], keys[3]}
	for _, x := range fullBends() {
		c := bent(full(), x)
		wantHashes(t, x.name, first.Owners(c.view, c.tx), plainOwners(c.view, c.tx)...)
	}
	c := full()
	wantHashes(t, "the full one", first.Owners(c.view, c.tx), wanted...)
	wantHashes(t, "nothing but what it takes", first.Owners(c.view, taking(c.tx.Body.Inputs, c.tx.Body.Collateral)), wanted...)
}

// P15.1: policies of assets of any sort.
func TestPolicies(t *testing.T) {
	t.Parallel()
	a, b, c := h(1, 2), h(1, 3), h(2, 0)
	for name, x := range map[string]struct {
		l        []api.Asset
		policies []api.Hash
	}{
		"none":             {nil, nil},
		"an empty list":    {[]api.Asset{}, nil},
		"one":              {[]api.Asset{as(a, "x", 1)}, []api.Hash{a}},
		"noughts":          {[]api.Asset{{}}, []api.Hash{{}}},
		"rising":           {[]api.Asset{as(a, "", 1), as(b, "", 1), as(c, "", 1)}, []api.Hash{a, b, c}},
		"falling":          {[]api.Asset{as(c, "", 1), as(b, "", 1), as(a, "", 1)}, []api.Hash{a, b, c}},
		"twice":            {[]api.Asset{as(a, "x", 1), as(a, "y", 1)}, []api.Hash{a}},
		"twice the same":   {[]api.Asset{as(a, "x", 1), as(a, "x", 1)}, []api.Hash{a}},
		"twice, apart":     {[]api.Asset{as(a, "x", 1), as(b, "x", 1), as(a, "y", 1)}, []api.Hash{a, b}},
		"names that fall":  {[]api.Asset{as(b, "z", 1), as(b, "a", 1), as(a, "q", 1)}, []api.Hash{a, b}},
		"of 0, and below":  {[]api.Asset{as(b, "", 0), as(a, "", -1), as(c, "", least)}, []api.Hash{a, b, c}},
		"31 of one policy": {some(31, 0), []api.Hash{h(7, 7)}},
		"all bytes count":  {[]api.Asset{as(h(0xff, 0), "", 1), as(h(0, 0xff), "", 1), as(h(0x7f, 1), "", 1), as(h(0x80, 1), "", 1)}, []api.Hash{h(0, 0xff), h(0x7f, 1), h(0x80, 1), h(0xff, 0)}},
	} {
		wantHashes(t, name, first.Policies(x.l), x.policies...)
	}
}

// P15.1: any entries, any refs, any assets.
func TestAnyHashes(t *testing.T) {
	t.Parallel()
	r := rand.New(rand.NewSource(1502))
	anyHash := func() api.Hash {
		x := h(byte(r.Intn(3)), byte(r.Intn(3)))
		x[r.Intn(32)] ^= byte(r.Intn(2) * r.Intn(256))
		return x
	}
	anyRefs := func() []api.Ref {
		var l []api.Ref
		for range r.Intn(6) {
			l = append(l, ref(byte(r.Intn(3)), r.Intn(3)))
		}
		return l
	}
	for n := range 3000 {
		var l []api.Entry
		for range r.Intn(12) {
			l = append(l, entry(ref(byte(r.Intn(3)), r.Intn(3)), api.Output{Address: api.Address{Program: r.Intn(3) == 0, Hash: anyHash()}}))
		}
		x := taking(anyRefs(), anyRefs())
		wantHashes(t, fmt.Sprint("the owners ", n), first.Owners(l, x), plainOwners(l, x)...)
		var assets []api.Asset
		for range r.Intn(12) {
			assets = append(assets, as(anyHash(), string(rune('a'+r.Intn(3))), r.Int63()-r.Int63()))
		}
		wantHashes(t, fmt.Sprint("the policies ", n), first.Policies(assets), plainPolicies(assets)...)
	}
}

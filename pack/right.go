package pack

import (
	"bytes"
	"cmp"
	"slices"

	"moidore/api"
	"moidore/term"
	"moidore/value"
)

// wrong is what is thrown instead of a thing that is not right.
const wrong = api.ErrShape

// must throws, unless all that it is given is so.
func must(so ...bool) {
	if slices.Contains(so, false) {
		panic(wrong)
	}
}

// met says whether asks throw nothing.
func met(asks func()) (so bool) {
	defer func() {
		if recover() != nil {
			so = false
		}
	}()
	asks()
	return true
}

// Less says whether a stands ahead of b.
func Less(a, b api.Ref) bool {
	return cmp.Or(bytes.Compare(a.Tx[:], b.Tx[:]), cmp.Compare(a.Place, b.Place)) < 0
}

func rightRef(x api.Ref) bool { return x.Place >= 0 && x.Place <= api.MaxOutputs }

// RightOutput says whether o is right.
func RightOutput(o api.Output) bool {
	return met(func() {
		must(value.Right(o.Value))
		mustHave(o)
	})
}

// mustHave throws an output that has not just the data that its Datum says.
func mustHave(o api.Output) {
	noHash, noTerm := o.Hash == api.Hash{}, len(o.Term.Nodes) == 0
	switch o.Datum {
	case api.DatumNone:
		must(noHash, noTerm)
	case api.DatumHash:
		must(noTerm)
	case api.DatumInline:
		must(noHash, term.Right(o.Term))
	default:
		panic(wrong)
	}
}

// RightEntries says whether entries are right.
func RightEntries(l []api.Entry) bool {
	return met(func() {
		for i, e := range l {
			must(rightRef(e.Ref), RightOutput(e.Output), i == 0 || Less(l[i-1].Ref, e.Ref))
		}
	})
}

// RightDiff says whether d is right.
func RightDiff(d api.Diff) bool {
	return met(func() {
		must(RightEntries(d.Spent), RightEntries(d.Made), d.Fees >= 0, d.Forfeits >= 0, value.Totals(d.Mint))
		must(apart(d.Spent, d.Made))
	})
}

// apart says whether no ref stands in both of two rows that rise.
func apart(a, b []api.Entry) bool {
	for len(a) > 0 && len(b) > 0 {
		switch x, y := a[0].Ref, b[0].Ref; {
		case Less(x, y):
			a = a[1:]
		case Less(y, x):
			b = b[1:]
		default:
			return false
		}
	}
	return true
}

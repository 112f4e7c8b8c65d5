package scene

import (
	"moidore/api"
	"moidore/wots"
)

// Tags of addresses. Those of data are the numbers of api's kinds.
const (
	tagKey     = 0
	tagProgram = 1
)

func ref(x api.Ref) api.Term { return list(hash(x.Tx), num(int64(x.Place))) }

func address(a api.Address) api.Term {
	if a.Program {
		return tag(tagProgram, hash(a.Hash))
	}
	return tag(tagKey, hash(a.Hash))
}

// datum is the datum of a right output, which has nothing but what its kind says.
func datum(o api.Output) api.Term {
	kind := int64(o.Datum)
	switch o.Datum {
	case api.DatumHash:
		return tag(kind, hash(o.Hash))
	case api.DatumInline:
		return tag(kind, o.Term)
	}
	return tag(kind)
}

func output(o api.Output) api.Term {
	return list(address(o.Address), num(o.Value.Coin), assets(o.Value.Assets), datum(o))
}

func assets(l []api.Asset) api.Term {
	return row(l, func(a api.Asset, put putter) {
		put(list(hash(a.Policy), text(a.Name), num(a.Amount)))
	})
}

func outputs(l []api.Output) api.Term {
	return row(l, func(o api.Output, put putter) { put(output(o)) })
}

func entered(l []api.Entry) api.Term {
	return row(l, func(e api.Entry, put putter) { put(list(ref(e.Ref), output(e.Output))) })
}

// owners is who signed. A signature of something else tells one too, but one of whom nobody has a seed, so that it says of nobody that he signed.
func owners(l []api.Signature, id api.Hash) api.Term {
	return row(l, func(s api.Signature, put putter) {
		if h, told := wots.Owner(s, id); told {
			put(hash(h))
		}
	})
}

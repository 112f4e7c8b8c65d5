package scene_test

import (
	"moidore/api"
	"moidore/pack"
	"moidore/tx"
	"moidore/wots"
)

// A plain second telling of the chapter, word by word: an int64 is an int, a string bytes, listed a list, tagged a tag, an api.Term is itself.

type listed []any

type tagged struct {
	tag  int64
	kids listed
}

// laid is the nodes of what is told.
func laid(x any) []api.Node {
	var n api.Node
	var kids listed
	switch x := x.(type) {
	case api.Term:
		return x.Nodes
	case int64:
		n = api.Node{Kind: api.TermInt, Int: x}
	case string:
		n = api.Node{Kind: api.TermBytes, Bytes: x}
	case listed:
		n, kids = api.Node{Kind: api.TermList}, x
	case tagged:
		n, kids = api.Node{Kind: api.TermTag, Int: x.tag}, x.kids
	default:
		panic("nothing that can be told")
	}
	n.Kids = len(kids)
	l := []api.Node{n}
	for _, k := range kids {
		l = append(l, laid(k)...)
	}
	return l
}

func plainHash(x api.Hash) string { return string(x[:]) }

func plainRef(x api.Ref) any { return listed{plainHash(x.Tx), int64(x.Place)} }

func plainAddress(a api.Address) any {
	if a.Program {
		return tagged{1, listed{plainHash(a.Hash)}}
	}
	return tagged{0, listed{plainHash(a.Hash)}}
}

func plainAssets(l []api.Asset) any {
	all := listed{}
	for _, a := range l {
		all = append(all, listed{plainHash(a.Policy), a.Name, a.Amount})
	}
	return all
}

func plainDatum(o api.Output) any {
	switch o.Datum {
	case 0:
		return tagged{0, nil}
	case 1:
		return tagged{1, listed{plainHash(o.Hash)}}
	}
	return tagged{2, listed{o.Term}}
}

func plainOutput(o api.Output) any {
	return listed{plainAddress(o.Address), o.Value.Coin, plainAssets(o.Value.Assets), plainDatum(o)}
}

func plainOutputs(l []api.Output) any {
	all := listed{}
	for _, o := range l {
		all = append(all, plainOutput(o))
	}
	return all
}

func plainEntries(l []api.Entry) any {
	all := listed{}
	for _, e := range l {
		all = append(all, listed{plainRef(e.Ref), plainOutput(e.Output)})
	}
	return all
}

func plainOwners(l []api.Signature, id api.Hash) any {
	all := listed{}
	for _, s := range l {
		if owner, is := wots.Owner(s, id); is {
			all = append(all, plainHash(owner))
		}
	}
	return all
}

// isScene says whether there is a scene.
func isScene(t api.Tx, l []api.Entry, purpose api.PurposeKind, place int) bool {
	is := tx.Right(t) && len(l) == len(t.Body.Inputs) && (purpose == 1 || purpose == 2) && 0 <= place && place <= 65535
	for i := 0; is && i < len(l); i++ {
		is = l[i].Ref == t.Body.Inputs[i] && pack.RightOutput(l[i].Output)
	}
	return is
}

// plainScene is the scene; no term, if there is none.
func plainScene(t api.Tx, l []api.Entry, purpose api.PurposeKind, place int) api.Term {
	if !isScene(t, l, purpose, place) {
		return api.Term{}
	}
	b := t.Body
	id, _ := tx.Id(b)
	return termOf(listed{
		plainHash(id), plainEntries(l), plainOutputs(b.Outputs), b.Fee, b.From, b.To,
		plainAssets(b.Mint), plainOwners(t.Signatures, id), int64(purpose), int64(place),
	})
}

package first

import (
	"bytes"
	"slices"

	"moidore/api"
	"moidore/pack"
	"moidore/view"
)

// each is what of tells of each thing of a row.
func each[T, U any](l []T, of func(T) U) []U {
	var told []U
	for _, x := range l {
		told = append(told, of(x))
	}
	return told
}

// rising is hashes as they rise, each once. The row is written over, so that it must be the caller's own.
func rising(l []api.Hash) []api.Hash {
	slices.SortFunc(l, func(a, b api.Hash) int { return bytes.Compare(a[:], b[:]) })
	return slices.Compact(l)
}

// rise says whether each ref stands ahead of the next one.
func rise(l []api.Ref) bool {
	for i := range l {
		if i > 0 && !pack.Less(l[i-1], l[i]) {
			return false
		}
	}
	return true
}

// found is the outputs of refs, as far as they are there.
func found(l []api.Entry, refs []api.Ref) []api.Output {
	var outputs []api.Output
	for _, x := range refs {
		if o, there := view.Find(l, x); there {
			outputs = append(outputs, o)
		}
	}
	return outputs
}

// locks is the hashes of the programs, or of the keys, by which outputs are locked, as these stand.
func locks(program bool, l ...api.Output) []api.Hash {
	var hashes []api.Hash
	for _, o := range l {
		if o.Address.Program == program {
			hashes = append(hashes, o.Address.Hash)
		}
	}
	return hashes
}

// owners is whose keys lock what is taken, or may be lost.
func owners(rows ...[]api.Output) []api.Hash {
	return rising(locks(false, slices.Concat(rows...)...))
}

// bundles is what outputs hold.
func bundles(l []api.Output) []api.Value {
	return each(l, func(o api.Output) api.Value { return o.Value })
}

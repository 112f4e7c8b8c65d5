package block

import (
	"slices"

	"moidore/api"
)

// mostHeight is the greatest height, which has no name in package api.
const mostHeight = 1<<31 - 1

// wrong is what is thrown instead of a thing that is not right.
const wrong = api.ErrShape

// caught is what ask answers, and true; zero and false, if it throws.
func caught[T any](ask func() T) (told T, is bool) {
	defer func() { is = recover() == nil }()
	return ask(), true
}

// must throws, unless all that it is given is so.
func must(so ...bool) {
	if slices.Contains(so, false) {
		panic(wrong)
	}
}

// mustFew throws more transactions than a block may have.
func mustFew(txs []api.Tx) { must(len(txs) <= api.MaxTxs) }

// mustFit throws more bytes than a block may have.
func mustFit(b []byte) { must(len(b) <= api.MaxBytes) }

func rightHeader(h api.Header) bool {
	return h.Height >= 0 && h.Height <= mostHeight && h.Slot >= 0 && h.Slot <= api.MaxSlot
}

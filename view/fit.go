package view

import (
	"slices"

	"moidore/api"
)

// misfit is what is thrown instead of what does not fit.
const misfit = api.ErrArg

// caught is what ask answers, and true; zero and false, if it throws.
func caught[T any](ask func() T) (told T, is bool) {
	defer func() { is = recover() == nil }()
	return ask(), true
}

// must throws, unless all that it is given is so.
func must(so ...bool) {
	if slices.Contains(so, false) {
		panic(misfit)
	}
}

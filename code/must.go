package code

import (
	"slices"

	"moidore/api"
)

// wrong is what is thrown instead of what may not be.
const wrong = api.ErrShape

// must throws, unless all that it is given is so.
func must(so ...bool) {
	if slices.Contains(so, false) {
		panic(wrong)
	}
}

// met says whether asks throw nothing.
func met(asks func()) (so bool) {
	defer func() {
		if recover() != nil {
			so = false
		}
	}()
	asks()
	return true
}

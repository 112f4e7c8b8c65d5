package scene

import (
	"slices"

	"moidore/api"
)

// wrong is what is thrown instead of a thing that is not right.
const wrong = api.ErrShape

// shown is the term that show answers; one without nodes, if it throws.
func shown(show func() api.Term) (t api.Term) {
	defer func() {
		if recover() != nil {
			t = api.Term{}
		}
	}()
	return show()
}

// must throws, unless all that it is given is so.
func must(so ...bool) {
	if slices.Contains(so, false) {
		panic(wrong)
	}
}

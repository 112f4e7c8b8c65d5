package value

import (
	"cmp"
	"math/bits"

	"moidore/api"
)

// Wide is n.
func Wide(n int64) api.Wide {
	return api.Wide{Hi: n >> 63, Lo: uint64(n)}
}

// Plus is the sum of all.
func Plus(l ...api.Wide) api.Wide {
	var all api.Wide
	for _, w := range l {
		lo, over := bits.Add64(all.Lo, w.Lo, 0)
		all = api.Wide{Hi: all.Hi + w.Hi + int64(over), Lo: lo}
	}
	return all
}

// Cmp is -1, 0, 1, as a is below b, the same, above.
func Cmp(a, b api.Wide) int {
	return cmp.Or(cmp.Compare(a.Hi, b.Hi), cmp.Compare(a.Lo, b.Lo))
}

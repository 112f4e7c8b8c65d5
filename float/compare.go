package float

import "cmp"

// Less says whether a is less than b.
func Less(a, b uint64) bool {
	x, y := number(a), number(b)
	return ask(false, func() bool { return x < y }, x, y)
}

// Same says whether a and b are the same number.
func Same(a, b uint64) bool {
	x, y := number(a), number(b)
	return ask(false, func() bool { return x == y }, x, y)
}

// Order is -1, 0, 1, as a stands ahead of b, is b, behind it; a NaN stands behind all.
func Order(a, b uint64) int {
	x, y := number(a), number(b)
	// cmp has a NaN ahead of all: turned round, it is behind.
	return ask(cmp.Compare(y, x), func() int {
		if x == y {
			// Bits that differ are those of -0 and 0; -0's are below 0, if they have a sign.
			return cmp.Compare(int64(a), int64(b))
		}
		return cmp.Compare(x, y)
	}, x, y)
}

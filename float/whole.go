package float

import "math"

// edge is one more than the greatest int, and -edge is the least one: both are floats, as the greatest is not.
const edge = 1 << 63

// Of is n, rounded.
func Of(n int64) uint64 { return math.Float64bits(float64(n)) }

// Int is the number a without what is behind the point, and true, if that is an int of 64 bits.
func Int(a uint64) (int64, bool) {
	x := number(a)
	// What a float beyond these becomes hangs on the machine; a NaN is not between them.
	if x >= -edge && x < edge {
		return int64(x), true
	}
	return 0, false
}

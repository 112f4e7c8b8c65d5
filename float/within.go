package float

import (
	"math"

	"moidore/api"
)

// number is what bits mean.
func number(a uint64) float64 { return math.Float64frombits(a) }

// sound throws the first of the numbers that is none.
func sound(numbers ...float64) {
	for _, x := range numbers {
		if math.IsNaN(x) {
			panic(x)
		}
	}
}

// ask is what the numbers become; instead, if one is thrown that is none.
func ask[T any](instead T, become func() T, numbers ...float64) (told T) {
	defer func() {
		if recover() != nil {
			told = instead
		}
	}()
	sound(numbers...)
	return become()
}

// bitsOf is the bits of the number that the numbers become; api.NaN, if one of all these is none.
func bitsOf(become func() float64, numbers ...float64) uint64 {
	return ask(api.NaN, func() uint64 {
		x := become()
		sound(x)
		return math.Float64bits(x)
	}, numbers...)
}

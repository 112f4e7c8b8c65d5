package run

import (
	"math"
	"math/bits"

	"moidore/api"
	"moidore/float"
)

func ints() table {
	return table{
		api.OpAdd:     two(add),
		api.OpSub:     two(sub),
		api.OpMul:     two(mul),
		api.OpDiv:     two(div),
		api.OpMod:     two(mod),
		api.OpNeg:     one(func(a int64) int64 { return sub(0, a) }),
		api.OpIntLess: two(func(a, b int64) bool { return a < b }),
		api.OpIntSame: two(func(a, b int64) bool { return a == b }),
	}
}

func reals() table {
	return table{
		api.OpRealAdd:   two(float.Add),
		api.OpRealSub:   two(float.Sub),
		api.OpRealMul:   two(float.Mul),
		api.OpRealDiv:   two(float.Div),
		api.OpRealSqrt:  one(float.Sqrt),
		api.OpRealNeg:   one(float.Neg),
		api.OpRealLess:  two(float.Less),
		api.OpRealSame:  two(float.Same),
		api.OpRealOrder: two(func(a, b uint64) int64 { return int64(float.Order(a, b)) }),
		api.OpToReal:    one(float.Of),
		api.OpToInt:     one(whole),
	}
}

func add(a, b int64) int64 {
	n := a + b
	// A sum that has wrapped round lies on the wrong side of a; a difference likewise.
	must((n < a) == (b < 0))
	return n
}

func sub(a, b int64) int64 {
	n := a - b
	must((n > a) == (b < 0))
	return n
}

func mul(a, b int64) int64 {
	high, low := bits.Mul64(uint64(a), uint64(b))
	// There each number below 0 is taken as 2^64 more than it is.
	high -= uint64(a>>63&b) + uint64(b>>63&a)
	n := int64(low)
	must(int64(high) == n>>63)
	return n
}

func div(a, b int64) int64 {
	must(b != 0, a != math.MinInt64 || b != -1)
	return a / b
}

func mod(a, b int64) int64 {
	must(b != 0)
	return a % b
}

func whole(a uint64) int64 {
	n, is := float.Int(a)
	must(is)
	return n
}

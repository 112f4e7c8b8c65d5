package run_test

import (
	"fmt"
	"math/big"
	"slices"
	"testing"

	"moidore/api"
)

// edgeInts is ints at which sums, products and quotients turn.
func edgeInts() []int64 {
	l := []int64{0, 1, 2, 3, 7, 1 << 31, 1<<32 - 1, 1 << 32, 3037000499, 3037000500, 1<<53 + 1, 1<<62 - 1, 1 << 62, most/3 + 1, most - 1}
	for _, n := range slices.Clone(l) {
		l = append(l, -n)
	}
	return append(l[1:], most, -most, least, least/3)
}

// exact is what an Op of ints gives, in numbers that never end; nil, if there is none such.
func exact(k api.OpKind, a, b int64) *big.Int {
	x, y := big.NewInt(a), big.NewInt(b)
	switch k {
	case api.OpAdd:
		return x.Add(x, y)
	case api.OpSub:
		return x.Sub(x, y)
	case api.OpMul:
		return x.Mul(x, y)
	}
	if b == 0 {
		return nil
	}
	if k == api.OpDiv {
		return x.Quo(x, y)
	}
	return x.Rem(x, y)
}

// P10.1: sums, differences, products, quotients and what is left, of all ints at the ends: what is an int of 64 bits is given, all else fails.
func TestInts(t *testing.T) {
	gave, failed := map[api.OpKind]int{}, map[api.OpKind]int{}
	for _, a := range edgeInts() {
		for _, b := range edgeInts() {
			for k := api.OpAdd; k <= api.OpMod; k++ {
				name := fmt.Sprintf("the Op %d of %d and %d", k, a, b)
				if n := exact(k, a, b); n != nil && n.IsInt64() {
					wantGives(t, name, op(k), n.Int64(), a, b)
					gave[k]++
				} else {
					wantFails(t, name, op(k), a, b)
					failed[k]++
				}
			}
			wantGives(t, fmt.Sprintf("whether %d is below %d", a, b), op(api.OpIntLess), big.NewInt(a).Cmp(big.NewInt(b)) < 0, a, b)
			wantGives(t, fmt.Sprintf("whether %d is %d", a, b), op(api.OpIntSame), a == b, a, b)
		}
		if a == least {
			wantFails(t, "the least one's sign turned", op(api.OpNeg), a)
		} else {
			wantGives(t, fmt.Sprintf("the sign of %d turned", a), op(api.OpNeg), -a, a)
		}
	}
	for k := api.OpAdd; k <= api.OpMod; k++ {
		if gave[k] < 50 || failed[k] < 20 {
			t.Errorf("the Op %d gave just %d times, failed just %d times", k, gave[k], failed[k])
		}
	}
}

// P10.1: ints, word by word: what just fits, and what just does not.
func TestIntsAtEnds(t *testing.T) {
	for _, x := range []struct {
		k          api.OpKind
		a, b, want int64
	}{
		{api.OpAdd, most, 0, most}, {api.OpAdd, most - 1, 1, most}, {api.OpAdd, most, least, -1}, {api.OpAdd, least, most, -1}, {api.OpAdd, least + 1, -1, least}, {api.OpAdd, -1 << 62, -1 << 62, least}, {api.OpAdd, 1 << 62, 1<<62 - 1, most},
		{api.OpSub, least, 0, least}, {api.OpSub, least + 1, 1, least}, {api.OpSub, -1, least, most}, {api.OpSub, -1, most, least}, {api.OpSub, 0, most, -most}, {api.OpSub, least, least, 0}, {api.OpSub, most, most, 0}, {api.OpSub, 7, 3, 4}, {api.OpSub, 3, 7, -4},
		{api.OpMul, most, 1, most}, {api.OpMul, most, -1, -most}, {api.OpMul, least, 1, least}, {api.OpMul, 1, least, least}, {api.OpMul, 0, least, 0}, {api.OpMul, least, 0, 0}, {api.OpMul, 3037000499, 3037000499, 9223372030926249001}, {api.OpMul, 1 << 31, -1 << 32, least}, {api.OpMul, -1 << 32, 1 << 31, least}, {api.OpMul, -3, -5, 15},
		{api.OpDiv, 7, 2, 3}, {api.OpDiv, -7, 2, -3}, {api.OpDiv, 7, -2, -3}, {api.OpDiv, -7, -2, 3}, {api.OpDiv, most, -1, -most}, {api.OpDiv, least, 1, least}, {api.OpDiv, least, least, 1}, {api.OpDiv, most, least, 0}, {api.OpDiv, least, most, -1}, {api.OpDiv, least + 1, -1, most}, {api.OpDiv, least, -2, 1 << 62}, {api.OpDiv, 0, -1, 0}, {api.OpDiv, 1, 2, 0}, {api.OpDiv, -1, 2, 0},
		{api.OpMod, 7, 2, 1}, {api.OpMod, -7, 2, -1}, {api.OpMod, 7, -2, 1}, {api.OpMod, -7, -2, -1}, {api.OpMod, least, -1, 0}, {api.OpMod, least, 1, 0}, {api.OpMod, most, -1, 0}, {api.OpMod, least, most, -1}, {api.OpMod, most, least, most}, {api.OpMod, 0, least, 0}, {api.OpMod, -6, 3, 0},
	} {
		wantGives(t, fmt.Sprintf("%d of %d and %d", x.k, x.a, x.b), op(x.k), x.want, x.a, x.b)
	}
	for _, x := range []struct {
		k    api.OpKind
		a, b int64
	}{
		{api.OpAdd, most, 1}, {api.OpAdd, 1, most}, {api.OpAdd, most, most}, {api.OpAdd, least, -1}, {api.OpAdd, -1, least}, {api.OpAdd, least, least}, {api.OpAdd, 1 << 62, 1 << 62}, {api.OpAdd, -1 << 62, -1<<62 - 1},
		{api.OpSub, least, 1}, {api.OpSub, 0, least}, {api.OpSub, most, -1}, {api.OpSub, most, least}, {api.OpSub, least, most}, {api.OpSub, -2, most},
		{api.OpMul, least, -1}, {api.OpMul, -1, least}, {api.OpMul, most, 2}, {api.OpMul, 2, most}, {api.OpMul, most, most}, {api.OpMul, least, least}, {api.OpMul, 3037000500, 3037000500}, {api.OpMul, 1 << 32, 1 << 32}, {api.OpMul, 1 << 31, 1 << 32}, {api.OpMul, -1 << 31, -1 << 32}, {api.OpMul, 1 << 62, 2}, {api.OpMul, 1 << 62, 4}, {api.OpMul, least, 2},
		{api.OpDiv, 0, 0}, {api.OpDiv, 1, 0}, {api.OpDiv, least, 0}, {api.OpDiv, most, 0}, {api.OpDiv, least, -1},
		{api.OpMod, 0, 0}, {api.OpMod, 1, 0}, {api.OpMod, least, 0}, {api.OpMod, most, 0},
	} {
		wantFails(t, fmt.Sprintf("%d of %d and %d", x.k, x.a, x.b), op(x.k), x.a, x.b)
	}
	for _, x := range [][2]int64{{0, 0}, {1, -1}, {-1, 1}, {most, -most}, {-most, most}, {1 << 62, -1 << 62}} {
		wantGives(t, "a sign", op(api.OpNeg), x[1], x[0])
	}
	for _, n := range []int64{0, 1, -1, least, most, 1 << 40} {
		wantGives(t, "an int that is put", pushInt(n), n)
	}
}

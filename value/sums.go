package value

import (
	"math"
	"slices"
	"strings"

	"moidore/api"
)

// What is thrown instead of a bundle.
const (
	notRight = api.ErrArg
	noAmount = api.ErrOver
	tooMany  = api.ErrLong
)

// sums is the sums at work, by what they are of.
type sums map[called]api.Wide

func (s sums) put(c called, w api.Wide) { s[c] = Plus(s[c], w) }

// totals is the sums that are not 0, as they rise.
func (s sums) totals() []api.Total {
	var l []api.Total
	for c, w := range s {
		if w != (api.Wide{}) {
			l = append(l, api.Total{Policy: c.policy, Name: strings.Clone(c.name), Sum: w})
		}
	}
	slices.SortFunc(l, func(a, b api.Total) int { return callTotal(a).order(callTotal(b)) })
	return l
}

// ask is the bundle that is told, and true; an empty one and false, if something is thrown instead.
func ask(tell func() api.Value) (told api.Value, is bool) {
	defer func() {
		if recover() != nil {
			told, is = api.Value{}, false
		}
	}()
	return tell(), true
}

// mustRight throws a bundle that is not right.
func mustRight(l ...api.Value) {
	for _, v := range l {
		if !Right(v) {
			panic(notRight)
		}
	}
}

// amount is w as a bundle has it; it throws a sum that is too great, or below 0.
func amount(w api.Wide) int64 {
	if w.Hi != 0 || w.Lo > math.MaxInt64 {
		panic(noAmount)
	}
	return int64(w.Lo)
}

// together is the bundle of all sums; it throws those that are none of a bundle's.
func together(l ...api.Value) api.Value {
	coins, totals := Sums(l...)
	if len(totals) > api.MaxAssets {
		panic(tooMany)
	}
	all := api.Value{Coin: amount(coins)}
	for _, t := range totals {
		all.Assets = append(all.Assets, api.Asset{Policy: t.Policy, Name: t.Name, Amount: amount(t.Sum)})
	}
	return all
}

// turned is v with all signs turned; v is right, so that there is room for each of them.
func turned(v api.Value) api.Value {
	v.Coin, v.Assets = -v.Coin, slices.Clone(v.Assets)
	for i := range v.Assets {
		v.Assets[i].Amount *= -1
	}
	return v
}

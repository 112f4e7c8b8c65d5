package value

import (
	"math/rand"
	"slices"
	"testing"

	"moidore/api"
)

func wantSums(t *testing.T, name string, coins api.Wide, want []api.Total, l ...api.Value) {
	t.Helper()
	got, amounts := Sums(l...)
	wantWide(t, "Sums' coins of "+name, got, coins)
	if !slices.Equal(amounts, want) {
		t.Errorf("Sums of %s: %s, not %s: %s", name, toldTotals(amounts), toldTotals(want), toldAll(l))
	}
}

func wantMerge(t *testing.T, name string, want []api.Total, l ...[]api.Total) {
	t.Helper()
	if got := Merge(l...); !slices.Equal(got, want) {
		t.Errorf("Merge of %s: %s, not %s", name, toldTotals(got), toldTotals(want))
	}
}

func tots(l ...api.Total) []api.Total { return l }

// P5.4: of none, of right ones, of sums that are beyond 64 bits.
func TestSums(t *testing.T) {
	wantSums(t, "none", wide(0, 0), nil)
	wantSums(t, "none, a list of them", wide(0, 0), nil, []api.Value{}...)
	wantSums(t, "an empty one", wide(0, 0), nil, val(0))
	wantSums(t, "one", wide(0, 5), tots(tot("a", 0, 1), tot("b", 0, most)), val(5, as("a", 1), as("b", most)))
	wantSums(t, "two", wide(0, 7), tots(tot("a", 0, 4), tot("b", 0, 2), tot("c", 0, 9)), val(5, as("a", 1), as("b", 2)), val(2, as("a", 3), as("c", 9)))
	wantSums(t, "two greatest", wide(0, all-1), tots(tot("a", 0, all-1)), val(most, as("a", most)), val(most, as("a", most)))
	wantSums(t, "three greatest", wide(1, most-2), tots(tot("a", 1, most-2)), val(most, as("a", most)), val(most, as("a", most)), val(most, as("a", most)))
	wantSums(t, "31 names", wide(0, 0), many31(), val(0, many(16, 15)...), val(0, many(0, 16)...))
}

func many31() []api.Total {
	var l []api.Total
	for _, a := range many(0, 31) {
		l = append(l, api.Total{Policy: a.Policy, Name: a.Name, Sum: wide(0, 1)})
	}
	return l
}

// P5.4: of bundles that are not right.
func TestSumsNotRight(t *testing.T) {
	wantSums(t, "a coin below 0", wide(-1, all), nil, val(-1))
	wantSums(t, "coins that are made good", wide(0, 3), nil, val(-5), val(8))
	wantSums(t, "the least coin", wide(-1, 1<<63), nil, val(least))
	wantSums(t, "the least coins", wide(-2, 1<<63), nil, val(least), val(least), val(least))
	wantSums(t, "an amount below 0", wide(0, 0), tots(tot("a", -1, all)), val(0, as("a", -1)))
	wantSums(t, "the least amounts", wide(0, 0), tots(tot("a", -1, 0)), val(0, as("a", least)), val(0, as("a", least)))
	wantSums(t, "an amount of 0", wide(0, 1), nil, val(1, as("a", 0)))
	wantSums(t, "a name twice", wide(0, 0), tots(tot("a", 0, 7)), val(0, as("a", 3), as("a", 4)))
	wantSums(t, "a name thrice, in two", wide(0, 0), tots(tot("a", 0, 6)), val(0, as("a", 1), as("a", 2)), val(0, as("a", 3)))
	wantSums(t, "names turned round", wide(0, 0), tots(tot("a", 0, 2), tot("b", 0, 1)), val(0, as("b", 1), as("a", 2)))
	wantSums(t, "a name that is too long", wide(0, 0), tots(tot(long(33), 0, 1), tot(long(300), 0, 2)), val(0, as(long(300), 2), as(long(33), 1)))
	wantSums(t, "31 names", wide(0, 0), many31(), val(0, many(0, 31)...))
}

// P5.4: sums that come to 0 are none.
func TestSumsOfNought(t *testing.T) {
	wantSums(t, "coins of 0", wide(0, 0), nil, val(5), val(-5))
	wantSums(t, "amounts of 0", wide(0, 2), nil, val(1, as("a", 1)), val(1, as("a", -1)))
	wantSums(t, "amounts of 0 in one", wide(0, 1), tots(tot("b", 0, 2)), val(1, as("a", 1), as("b", 2), as("a", -1)))
	wantSums(t, "the ends", wide(0, 0), nil, val(most, as("a", least)), val(1, as("a", most)), val(least, as("a", 1)))
	// Their last 64 bits are 0, but they are not.
	wantSums(t, "2^64 below 0", wide(-1, 0), tots(tot("a", -1, 0)), val(least, as("a", least)), val(least, as("a", least)))
	wantSums(t, "2^64", wide(1, 0), tots(tot("a", 1, 0)), val(most, as("a", most)), val(most, as("a", most)), val(2, as("a", 2)))
}

// P5.4: bundles of all sorts, by whole numbers without an end.
func TestSumsMany(t *testing.T) {
	r := rand.New(rand.NewSource(81))
	for range 10000 {
		l := bundles(r, r.Intn(5), anyBundle)
		sums := tally{}
		sums.bundles(1, l...)
		wantSums(t, "any", narrowed(sums.coins()), sums.totals(), l...)
		r.Shuffle(len(l), func(i, k int) { l[i], l[k] = l[k], l[i] })
		wantSums(t, "any, in another order", narrowed(sums.coins()), sums.totals(), l...)
	}
}

// P5.4: of none, of one row, of many; rows that are not in order, and names twice in one row.
func TestMerge(t *testing.T) {
	wantMerge(t, "none", nil)
	wantMerge(t, "none, a list of them", nil, [][]api.Total{}...)
	wantMerge(t, "empty rows", nil, nil, []api.Total{}, nil)
	one := tots(tot("a", 0, 1), tot("b", -1, 5), tot(long(40), least, 0))
	wantMerge(t, "one", one, one)
	wantMerge(t, "one, and empty rows", one, nil, one, nil)
	wantMerge(t, "one in parts", one, one[2:], one[:1], one[1:2])
	wantMerge(t, "two", tots(tot("a", 4, 6), tot("b", 0, 1)), tots(tot("a", 1, 2), tot("b", 0, 1)), tots(tot("a", 3, 4)))
	wantMerge(t, "a row that is turned", tots(tot("a", 0, 1), tot("b", 0, 2), tot("c", 0, 3)), tots(tot("c", 0, 3), tot("a", 0, 1), tot("b", 0, 2)))
	wantMerge(t, "a name twice", tots(tot("a", 0, 3)), tots(tot("a", 0, 1), tot("a", 0, 2)))
	wantMerge(t, "a name twice, apart", tots(tot("a", 0, 3), tot("b", 0, 9)), tots(tot("a", 0, 1), tot("b", 0, 9), tot("a", 0, 2)))
	wantMerge(t, "names twice in both", tots(tot("a", 0, 10)), tots(tot("a", 0, 1), tot("a", 0, 2)), tots(tot("a", 0, 3), tot("a", 0, 4)))
	other := api.Total{Policy: pol(8, 8), Name: "a", Sum: wide(0, 2)}
	wantMerge(t, "policies", tots(tot("a", 0, 1), tot("b", 0, 1), other), tots(other), tots(tot("b", 0, 1), tot("a", 0, 1)))
	wantMerge(t, "over Lo's end", tots(tot("a", 1, 0)), tots(tot("a", 0, all)), tots(tot("a", 0, 1)))
}

// P5.4: sums that together are 0 modulo 2^128 are none.
func TestMergeOfNought(t *testing.T) {
	wantMerge(t, "a sum of 0", nil, tots(tot("a", 0, 0)))
	wantMerge(t, "1 and -1", nil, tots(tot("a", 0, 1)), tots(tot("a", -1, all)))
	wantMerge(t, "1 and -1 in one row", tots(tot("b", 0, 7)), tots(tot("a", 0, 1), tot("b", 0, 7), tot("a", -1, all)))
	wantMerge(t, "half of all twice", nil, tots(tot("a", least, 0)), tots(tot("a", least, 0)))
	wantMerge(t, "half of all, and the rest", nil, tots(tot("a", most, all)), tots(tot("a", least, 0)), tots(tot("a", 0, 1)))
	wantMerge(t, "over Hi's end", tots(tot("a", least, 0)), tots(tot("a", most, 0)), tots(tot("a", 1, 0)))
	wantMerge(t, "Lo of 0 alone", tots(tot("a", 1, 0)), tots(tot("a", 0, 1<<63)), tots(tot("a", 0, 1<<63)))
	wantMerge(t, "Hi of 0 alone", tots(tot("a", 0, 5)), tots(tot("a", 3, 5)), tots(tot("a", -3, 0)))
	wantMerge(t, "0 and back", tots(tot("a", 0, 4)), tots(tot("a", 0, 1), tot("a", -1, all), tot("a", 0, 4)))
}

// P5.4: rows of all sorts, by whole numbers without an end.
func TestMergeMany(t *testing.T) {
	r := rand.New(rand.NewSource(82))
	for range 10000 {
		var l [][]api.Total
		sums := tally{}
		for range r.Intn(5) {
			row := anyTotals(r)
			l = append(l, row)
			for _, x := range row {
				sums.put(x.Policy, x.Name, whole(x.Sum))
			}
		}
		wantMerge(t, "any", sums.totals(), l...)
		r.Shuffle(len(l), func(i, k int) { l[i], l[k] = l[k], l[i] })
		wantMerge(t, "any, in another order", sums.totals(), l...)
		wantMerge(t, "what was merged", sums.totals(), sums.totals())
	}
}

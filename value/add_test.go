package value

import (
	"math/rand"
	"slices"
	"testing"

	"moidore/api"
)

func wantAdd(t *testing.T, name string, is bool, want api.Value, l ...api.Value) {
	t.Helper()
	got, ok := Add(l...)
	if ok != is || !alike(got, want) {
		t.Errorf("Add of %s: %s, %v, not %s, %v: %s", name, told(got), ok, told(want), is, toldAll(l))
	}
}

// wantNone asks for an empty one and false, in this order and the other one.
func wantNone(t *testing.T, name string, l ...api.Value) {
	t.Helper()
	wantAdd(t, name, false, val(0), l...)
	m := slices.Clone(l)
	slices.Reverse(m)
	wantAdd(t, name+", turned", false, val(0), m...)
}

func wantSub(t *testing.T, name string, a, b api.Value, is bool, want api.Value) {
	t.Helper()
	got, ok := Sub(a, b)
	if ok != is || !alike(got, want) {
		t.Errorf("Sub of %s: %s, %v, not %s, %v: %s less %s", name, told(got), ok, told(want), is, told(a), told(b))
	}
	if Covers(a, b) != is {
		t.Errorf("Covers of %s: %v: %s less %s", name, !is, told(a), told(b))
	}
}

// P5.2: of none, of one, of many.
func TestAdd(t *testing.T) {
	wantAdd(t, "none", true, val(0))
	wantAdd(t, "none, a list of them", true, val(0), []api.Value{}...)
	wantAdd(t, "an empty one", true, val(0), val(0))
	wantAdd(t, "empty ones", true, val(0), val(0), val(0), val(0))
	v := val(5, as("a", 1), as("b", 2), by(pol(8, 8), "a", 3))
	wantAdd(t, "one", true, v, v)
	wantAdd(t, "one and an empty one", true, v, val(0), v)
	wantAdd(t, "one twice", true, val(10, as("a", 2), as("b", 4), by(pol(8, 8), "a", 6)), v, v)
	wantAdd(t, "other names", true, val(3, by(pol(1, 1), "z", 9), as("a", 1), as("ab", 7), as("b", 2), by(pol(8, 8), "", 1)), val(1, as("b", 2)), val(2, by(pol(1, 1), "z", 9), as("ab", 7)), val(0, as("a", 1), by(pol(8, 8), "", 1)))
	wantAdd(t, "one name of two policies", true, val(0, as("a", 1), by(pol(8, 8), "a", 2)), val(0, by(pol(8, 8), "a", 2)), val(0, as("a", 1)))
	l := make([]api.Value, 1000)
	for i := range l {
		l[i] = val(1, as("a", 2))
	}
	wantAdd(t, "a thousand", true, val(1000, as("a", 2000)), l...)
}

// P5.2: the names of policies and names that are one text when they are put together stay apart.
func TestAddNamesApart(t *testing.T) {
	a, b := pol(1, 0), pol(1, 1)
	wantAdd(t, "a name that goes on", true, val(0, by(a, "", 1), by(a, "\x00", 2), by(b, "", 4)), val(0, by(a, "", 1)), val(0, by(a, "\x00", 2)), val(0, by(b, "", 4)))
}

// P5.2: one that is not right, wherever it stands, also where the sums would be right.
func TestAddNotRight(t *testing.T) {
	for name, v := range wrong() {
		wantNone(t, name, v)
		wantNone(t, name, v, val(0))
		wantNone(t, name, v, val(5, as("a", 5), as("b", 5)))
		wantNone(t, name, val(1), v, val(5, as("c", 5)))
		wantNone(t, name, v, v)
	}
}

// wrong is bundles that are not right, each by one thing.
func wrong() map[string]api.Value {
	return map[string]api.Value{
		"a coin below 0":       val(-1),
		"the least coin":       val(least),
		"an amount of 0":       val(1, as("a", 0)),
		"an amount below 0":    val(1, as("a", -1)),
		"the least amount":     val(1, as("a", least)),
		"a last amount of 0":   val(1, as("a", 1), as("b", 0)),
		"a name of 33 bytes":   val(1, as(long(33), 1)),
		"a name twice":         val(1, as("a", 1), as("a", 1)),
		"names turned round":   val(1, as("b", 1), as("a", 1)),
		"policies turned":      val(1, by(pol(8, 0), "a", 1), as("b", 1)),
		"31 assets":            val(1, many(0, 31)...),
		"an amount made good":  val(1, as("a", 2), as("a", -1)),
		"31 assets, one twice": val(1, append(many(0, 30), many(29, 1)...)...),
	}
}

// P5.2: sums of 2^63 - 1, and just above, of coins and of amounts; those that leave 63 bits more than once.
func TestAddEnds(t *testing.T) {
	a := func(n int64) api.Value { return val(0, as("a", n)) }
	for _, l := range [][]int64{{most}, {most, 0}, {most - 1, 1}, {1 << 62, 1<<62 - 1}, {1, 1, most - 2}, {most - 5, 2, 3}} {
		var coins, amounts []api.Value
		for _, n := range l {
			coins = append(coins, val(n))
			if n > 0 {
				amounts = append(amounts, a(n))
			}
		}
		wantAdd(t, "2^63 - 1 coins", true, val(most), coins...)
		wantAdd(t, "an amount of 2^63 - 1", true, a(most), amounts...)
	}
	for _, l := range [][]int64{{most, 1}, {1 << 62, 1 << 62}, {most, most}, {most, most, 1}, {most, most, 2}, {most, most, 3}, {most, most, most, most, 4}, {most, most, most, most, 5}, {1 << 62, 1 << 62, 1 << 62, 1 << 62}, {1 << 62, 1 << 62, 1 << 62, 1 << 62, 7}} {
		var coins, amounts, other []api.Value
		for _, n := range l {
			coins = append(coins, val(n))
			amounts = append(amounts, a(n))
			other = append(other, val(1, by(pol(1, 1), "a", 1), as("a", n), as("b", 2)))
		}
		wantNone(t, "coins above", coins...)
		wantNone(t, "an amount above", amounts...)
		wantNone(t, "an amount above amid others", other...)
	}
	wantAdd(t, "2^63 - 1 of each", true, val(most, as("a", most), as("b", most)), val(most, as("a", 1)), val(0, as("a", most-1), as("b", most)))
}

// P5.2: sums that pass 2^64, and 2^65, on their way: their last 64 bits say nothing.
func TestAddFarAbove(t *testing.T) {
	for _, n := range []int{2, 3, 4, 5, 8, 9, 16, 17} {
		l := make([]api.Value, n)
		for i := range l {
			l[i] = val(most)
		}
		wantNone(t, "coins", append(l, val(int64(n)+5))...)
		for i := range l {
			l[i] = val(0, as("a", most))
		}
		wantNone(t, "an amount", append(l, val(0, as("a", int64(n)+5)))...)
	}
}

// P5.2: 30 and 31 assets in all.
func TestAddCount(t *testing.T) {
	wantAdd(t, "15 and 15", true, val(0, many(0, 30)...), val(0, many(15, 15)...), val(0, many(0, 15)...))
	wantAdd(t, "29 and one", true, val(0, many(0, 30)...), val(0, many(29, 1)...), val(0, many(0, 29)...))
	wantNone(t, "30 and one", val(0, many(0, 30)...), val(0, many(30, 1)...))
	wantNone(t, "16 and 15", val(0, many(0, 16)...), val(0, many(16, 15)...))
	wantNone(t, "30 and 30", val(0, many(0, 30)...), val(0, many(30, 30)...))
	twice := many(0, 30)
	for i := range twice {
		twice[i].Amount = 2
	}
	wantAdd(t, "30 and the same 30", true, val(0, twice...), val(0, many(0, 30)...), val(0, many(0, 30)...))
	var ones []api.Value
	for i := range 31 {
		ones = append(ones, val(1, many(i, 1)...))
	}
	wantAdd(t, "30 of one", true, val(30, many(0, 30)...), ones[:30]...)
	wantNone(t, "31 of one", ones...)
}

// P5.2: bundles of all sorts, by whole numbers without an end.
func TestAddMany(t *testing.T) {
	r := rand.New(rand.NewSource(71))
	count := map[bool]int{}
	for range 15000 {
		l := bundles(r, r.Intn(4), anyRight)
		for i := range l {
			if r.Intn(6) == 0 {
				l[i] = spoilt(r, l[i])
			}
		}
		sums := tally{}
		sums.bundles(1, l...)
		want, is := sums.bundle()
		for _, v := range l {
			if !right(v) {
				want, is = val(0), false
			}
		}
		count[is]++
		wantAdd(t, "any", is, want, l...)
		if got, ok := Add(l...); ok && !right(got) {
			t.Errorf("%s is not right", told(got))
		}
	}
	if count[true] < 2000 || count[false] < 2000 {
		t.Errorf("%v", count)
	}
}

// P5.2: where nothing is left, where all is left.
func TestSub(t *testing.T) {
	v := val(5, as("a", 1), as("b", 4), by(pol(8, 8), "a", 3))
	wantSub(t, "nothing of nothing", val(0), val(0), true, val(0))
	wantSub(t, "nothing", v, val(0), true, v)
	wantSub(t, "itself", v, v, true, val(0))
	wantSub(t, "all coins", v, val(5), true, val(0, as("a", 1), as("b", 4), by(pol(8, 8), "a", 3)))
	wantSub(t, "all of the first", v, val(0, as("a", 1)), true, val(5, as("b", 4), by(pol(8, 8), "a", 3)))
	wantSub(t, "all of one amid", v, val(1, as("b", 4)), true, val(4, as("a", 1), by(pol(8, 8), "a", 3)))
	wantSub(t, "all of the last", v, val(2, by(pol(8, 8), "a", 3)), true, val(3, as("a", 1), as("b", 4)))
	wantSub(t, "a part of each", v, val(1, as("b", 3), by(pol(8, 8), "a", 1)), true, val(4, as("a", 1), as("b", 1), by(pol(8, 8), "a", 2)))
	wantSub(t, "all assets", v, val(0, v.Assets...), true, val(5))
	wantSub(t, "the greatest", val(most, as("a", most)), val(most, as("a", most)), true, val(0))
	wantSub(t, "all but one", val(most, as("a", most)), val(most-1, as("a", most-1)), true, val(1, as("a", 1)))
	wantSub(t, "one of the greatest", val(most, as("a", most)), val(1, as("a", 1)), true, val(most-1, as("a", most-1)))
	wantSub(t, "30 of 30", val(0, many(0, 30)...), val(0, many(0, 30)...), true, val(0))
	wantSub(t, "29 of 30", val(0, many(0, 30)...), val(0, many(1, 29)...), true, val(0, many(0, 1)...))
}

// P5.2: where there is too little of coins, of an asset, or none of it.
func TestSubTooLittle(t *testing.T) {
	v := val(5, as("a", 1), as("b", 4))
	for name, b := range map[string]api.Value{
		"a coin more":           val(6),
		"many coins more":       val(most),
		"a coin more, assets":   val(6, as("a", 1)),
		"one more of the first": val(0, as("a", 2)),
		"one more of the last":  val(5, as("b", 5)),
		"the greatest amount":   val(5, as("b", most)),
		"one ahead of all":      val(0, as("A", 1)),
		"one amid":              val(0, as("aa", 1)),
		"one behind all":        val(0, as("c", 1)),
		"another policy":        val(0, by(pol(8, 8), "a", 1)),
		"policy and all of it":  val(5, as("a", 1), as("b", 4), by(pol(8, 8), "a", 1)),
	} {
		wantSub(t, name, v, b, false, val(0))
		wantSub(t, name+", of nothing", val(0), b, false, val(0))
	}
	wantSub(t, "an asset of coins", val(most), val(0, as("a", 1)), false, val(0))
	wantSub(t, "coins of an asset", val(0, as("a", most)), val(1), false, val(0))
	wantSub(t, "one that the other has not", val(0, many(0, 30)...), val(0, many(30, 1)...), false, val(0))
}

// P5.2: a or b is not right, also where what is left would be.
func TestSubNotRight(t *testing.T) {
	enough := val(most, as("a", most), as("b", most), as(long(32), most))
	for name, v := range wrong() {
		wantSub(t, name+", from it nothing", v, val(0), false, val(0))
		wantSub(t, name+", from it a part", v, val(1), false, val(0))
		wantSub(t, name+", from itself", v, v, false, val(0))
		wantSub(t, name+", from enough", enough, v, false, val(0))
		wantSub(t, name+", from nothing", val(0), v, false, val(0))
	}
	wantSub(t, "31 assets, of which one goes", val(0, many(0, 31)...), val(0, many(0, 1)...), false, val(0))
}

// P5.2: two of all sorts, by whole numbers; and what is left is a, if b is added.
func TestSubMany(t *testing.T) {
	r := rand.New(rand.NewSource(72))
	count := map[bool]int{}
	for range 15000 {
		b := anyRight(r)
		a := anyBundle(r)
		if r.Intn(2) == 0 {
			if sum, is := Add(anyRight(r), b); is {
				a = sum
			}
		}
		if r.Intn(6) == 0 {
			b = spoilt(r, b)
		}
		sums := tally{}
		sums.bundles(1, a)
		sums.bundles(-1, b)
		want, is := sums.bundle()
		if !right(a) || !right(b) {
			want, is = val(0), false
		}
		count[is]++
		wantSub(t, "any", a, b, is, want)
		if left, is := Sub(a, b); is {
			wantAdd(t, "what is left, and b", true, a, left, b)
		}
	}
	if count[true] < 2000 || count[false] < 2000 {
		t.Errorf("%v", count)
	}
}

// P5.6: Add in all orders of some.
func TestAddOrders(t *testing.T) {
	r := rand.New(rand.NewSource(73))
	for range 2500 {
		l := bundles(r, 2+r.Intn(5), anyRight)
		want, is := Add(l...)
		for range 10 {
			r.Shuffle(len(l), func(i, k int) { l[i], l[k] = l[k], l[i] })
			wantAdd(t, "another order", is, want, l...)
		}
	}
}

// P5.6: Sums of right bundles are what Add tells, where that tells true.
func TestSumsAgainstAdd(t *testing.T) {
	r := rand.New(rand.NewSource(74))
	count := 0
	for range 10000 {
		l := bundles(r, r.Intn(4), anyRight)
		v, is := Add(l...)
		if !is {
			continue
		}
		count++
		coins, amounts := Sums(l...)
		wantWide(t, "coins", coins, Wide(v.Coin))
		var want []api.Total
		for _, a := range v.Assets {
			want = append(want, api.Total{Policy: a.Policy, Name: a.Name, Sum: Wide(a.Amount)})
		}
		if !slices.Equal(amounts, want) {
			t.Errorf("%s, not %s", toldTotals(amounts), toldTotals(want))
		}
	}
	if count < 2000 {
		t.Errorf("%d were added", count)
	}
}

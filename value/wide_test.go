package value

import (
	"math/big"
	"math/rand"
	"testing"

	"moidore/api"
)

func wantWide(t *testing.T, name string, got, want api.Wide) {
	t.Helper()
	if got != want {
		t.Errorf("%s: %s, not %s", name, toldWide(got), toldWide(want))
	}
}

func wantCmp(t *testing.T, a, b api.Wide, want int) {
	t.Helper()
	if got := Cmp(a, b); got != want {
		t.Errorf("Cmp of %s and %s: %d, not %d", toldWide(a), toldWide(b), got, want)
	}
}

// P5.3: 0, 1, -1, the least and the greatest int64.
func TestWide(t *testing.T) {
	for n, want := range map[int64]api.Wide{
		0: wide(0, 0), 1: wide(0, 1), 2: wide(0, 2), 1 << 62: wide(0, 1<<62), most: wide(0, most),
		-1: wide(-1, all), -2: wide(-1, all-1), -1 << 62: wide(-1, 3<<62), least + 1: wide(-1, 1<<63+1), least: wide(-1, 1<<63),
	} {
		wantWide(t, "Wide of "+number(n), Wide(n), want)
	}
	r := rand.New(rand.NewSource(61))
	for range 10000 {
		n := anyNumber(r)
		if whole(Wide(n)).Cmp(big.NewInt(n)) != 0 {
			t.Errorf("Wide of %d is %s", n, toldWide(Wide(n)))
		}
	}
}

// P5.3: of none, of one; over the end of Lo, of Hi, of both.
func TestPlus(t *testing.T) {
	wantWide(t, "none", Plus(), wide(0, 0))
	wantWide(t, "none", Plus([]api.Wide{}...), wide(0, 0))
	wantWide(t, "one", Plus(wide(-3, 7)), wide(-3, 7))
	wantWide(t, "two", Plus(wide(1, 2), wide(3, 4)), wide(4, 6))
	wantWide(t, "one below 0", Plus(wide(5, 2), wide(-3, 4)), wide(2, 6))
	wantWide(t, "up to the end of Lo", Plus(wide(0, all-1), wide(0, 1)), wide(0, all))
	wantWide(t, "over the end of Lo", Plus(wide(0, all), wide(0, 1)), wide(1, 0))
	wantWide(t, "far over the end of Lo", Plus(wide(2, all), wide(3, all)), wide(6, all-1))
	wantWide(t, "Lo's highest bits", Plus(wide(0, 1<<63), wide(0, 1<<63)), wide(1, 0))
	wantWide(t, "1 and -1", Plus(wide(0, 1), wide(-1, all)), wide(0, 0))
	wantWide(t, "-1 and -1", Plus(wide(-1, all), wide(-1, all)), wide(-1, all-1))
	wantWide(t, "over the end of Hi", Plus(wide(most, 0), wide(1, 0)), wide(least, 0))
	wantWide(t, "over the end of both", Plus(wide(most, all), wide(0, 1)), wide(least, 0))
	wantWide(t, "under the end of Hi", Plus(wide(least, 0), wide(-1, 0)), wide(most, 0))
	wantWide(t, "under the end of both", Plus(wide(least, 0), wide(-1, all)), wide(most, all))
	wantWide(t, "the least twice", Plus(wide(least, 5), wide(least, 6)), wide(0, 11))
	wantWide(t, "over Lo's end twice", Plus(wide(0, all), wide(0, all), wide(0, 2)), wide(2, 0))
	wantWide(t, "over Hi's end and back", Plus(wide(most, all), wide(most, all), wide(least, 0), wide(least, 0)), wide(-1, all-1))
}

// P5.3: wide numbers of all sorts, in all orders, by whole numbers without an end.
func TestPlusMany(t *testing.T) {
	r := rand.New(rand.NewSource(62))
	for range 50000 {
		var l []api.Wide
		n := new(big.Int)
		for range r.Intn(6) {
			w := anyWide(r)
			l = append(l, w)
			n.Add(n, whole(w))
		}
		want := narrowed(n)
		wantWide(t, "Plus", Plus(l...), want)
		r.Shuffle(len(l), func(i, k int) { l[i], l[k] = l[k], l[i] })
		wantWide(t, "Plus in another order", Plus(l...), want)
		if len(l) > 1 {
			wantWide(t, "Plus in parts", Plus(Plus(l[:1]...), Plus(l[1:]...)), want)
		}
	}
}

// P5.3: like and unlike Hi and Lo: Hi has a sign, Lo has none.
func TestCmp(t *testing.T) {
	rising := []api.Wide{
		wide(least, 0), wide(least, 1), wide(least, all), wide(-2, all), wide(-1, 0), wide(-1, 1<<63-1), wide(-1, 1<<63), wide(-1, all),
		wide(0, 0), wide(0, 1), wide(0, 1<<63-1), wide(0, 1<<63), wide(0, all), wide(1, 0), wide(1, all), wide(most, 0), wide(most, all),
	}
	for i, a := range rising {
		for k, b := range rising {
			want := 0
			if i < k {
				want = -1
			}
			if i > k {
				want = 1
			}
			wantCmp(t, a, b, want)
		}
	}
	r := rand.New(rand.NewSource(63))
	for range 50000 {
		a, b := anyWide(r), anyWide(r)
		if r.Intn(2) == 0 {
			b.Hi = a.Hi
		}
		wantCmp(t, a, b, whole(a).Cmp(whole(b)))
	}
}

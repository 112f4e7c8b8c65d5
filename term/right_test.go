package term

import (
	"math/rand"
	"testing"

	"moidore/api"
)

func wantRight(t *testing.T, name string, x api.Term, want bool) {
	t.Helper()
	if got := Right(x); got != want {
		t.Errorf("Right of %s: %v: %s", name, got, told(x))
	}
}

func wantFits(t *testing.T, x api.Term, most, deep int, want bool) {
	t.Helper()
	if got := Fits(x, most, deep); got != want {
		t.Errorf("Fits with %d, %d: %v: %s", most, deep, got, told(x))
	}
}

func wantDeep(t *testing.T, name string, x api.Term, want int) {
	t.Helper()
	if got := Deep(x); got != want {
		t.Errorf("Deep of %s: %d, not %d: %s", name, got, want, told(x))
	}
}

// P4.1: terms of each kind at their ends, and just past them; what is not in order.
func TestRight(t *testing.T) {
	for name, x := range rightOnes() {
		wantRight(t, name, x, true)
		wantFits(t, x, 100, 16, true)
	}
	for name, x := range misshapen() {
		wantRight(t, name, x, false)
		wantRight(t, name+", in a list", list(num(1), x, num(2)), false)
		wantRight(t, name+", as a key", pairs(x, num(1)), false)
		wantRight(t, name+", as a value", pairs(num(1), x), false)
		wantFits(t, x, 1<<63-1, 1<<63-1, false)
	}
	for name, x := range unordered() {
		wantRight(t, name, x, false)
		wantFits(t, x, 1<<63-1, 1<<63-1, false)
	}
}

// P4.1: each part that a kind does not have, beside what it has.
func TestNothingElse(t *testing.T) {
	has := map[api.TermKind]struct{ int, bits, bytes, kids bool }{
		api.TermInt:   {int: true},
		api.TermBytes: {bytes: true},
		api.TermReal:  {bits: true},
		api.TermList:  {kids: true},
		api.TermTag:   {int: true, kids: true},
		api.TermMap:   {kids: true},
	}
	for kind := api.TermKind(-1); kind < 10; kind++ {
		for some := range 16 {
			n := api.Node{Kind: kind}
			var kids []api.Term
			h, is := has[kind]
			if some&1 != 0 {
				n.Int = 1
				is = is && h.int
			}
			if some&2 != 0 {
				n.Bits = one
				is = is && h.bits
			}
			if some&4 != 0 {
				n.Bytes = "a"
				is = is && h.bytes
			}
			if some&8 != 0 {
				kids = []api.Term{num(1), num(2)}
				is = is && h.kids
			}
			wantRight(t, "parts", over(n, kids...), is)
		}
	}
}

// P4.1: 100 and 101 nodes, in one row and in many.
func TestCount(t *testing.T) {
	wantRight(t, "100 nodes", list(nums(99)...), true)
	wantRight(t, "101 nodes", list(nums(100)...), false)
	wantRight(t, "100 nodes of a tag", tag(5, nums(99)...), true)
	wantRight(t, "101 nodes of a tag", tag(5, nums(100)...), false)
	wantRight(t, "101 nodes of a map", pairs(nums(100)...), false)
	wantRight(t, "99 nodes of a map", pairs(nums(98)...), true)
	wantRight(t, "100 nodes in two", list(list(nums(49)...), list(nums(48)...)), true)
	wantRight(t, "101 nodes in two", list(list(nums(49)...), list(nums(49)...)), false)
}

// P4.1: 16 and 17 deep, the deepest one standing first, amid, last; by lists, tags, maps.
func TestDepth(t *testing.T) {
	below := map[string]func(api.Term) api.Term{
		"a list":      func(x api.Term) api.Term { return list(x) },
		"first":       func(x api.Term) api.Term { return list(x, num(1), list()) },
		"amid":        func(x api.Term) api.Term { return list(list(), x, num(1)) },
		"last":        func(x api.Term) api.Term { return list(list(), num(1), x) },
		"a tag":       func(x api.Term) api.Term { return tag(3, x) },
		"a key":       func(x api.Term) api.Term { return pairs(x, num(1)) },
		"a value":     func(x api.Term) api.Term { return pairs(num(1), x) },
		"the last":    func(x api.Term) api.Term { return pairs(num(1), num(1), num(2), x) },
		"a last key":  func(x api.Term) api.Term { return pairs(num(0), num(1), x, num(1)) },
		"an odd kind": func(x api.Term) api.Term { return over(api.Node{Kind: 9}, x) },
	}
	for name, f := range below {
		right := name != "an odd kind"
		for _, last := range []api.Term{num(1), text("a"), realOf(0), list(), tag(1), pairs()} {
			wantDeep(t, name, last, 1)
			for deep := 2; deep < 20; deep++ {
				x := f(nested(deep-1, last))
				wantDeep(t, name, x, deep)
				wantRight(t, name, x, right && deep <= 16)
				wantFits(t, x, 1000, deep, right)
				wantFits(t, x, 1000, deep-1, false)
			}
		}
	}
}

// P4.1: Deep asks just whether a term is in order.
func TestDeep(t *testing.T) {
	for name, x := range unordered() {
		wantDeep(t, name, x, 0)
	}
	for _, m := range []map[string]api.Term{misshapen(), rightOnes()} {
		for name, x := range m {
			y, _ := grown(x)
			wantDeep(t, name, x, y.deep())
			wantDeep(t, name+", in a list", list(num(1), x), y.deep()+1)
		}
	}
	wantDeep(t, "101 nodes", list(nums(100)...), 2)
	wantDeep(t, "1000 deep", nested(1000, num(1)), 1000)
}

// P4.1: Fits with numbers above the limits, at the limits, just below what a term has; 0, and negative ones.
func TestFits(t *testing.T) {
	big := list(nums(32767)...)
	wantFits(t, big, api.MaxScene, api.SceneDeep, true)
	wantFits(t, big, api.MaxScene-1, api.SceneDeep, false)
	wantFits(t, nested(24, num(1)), api.MaxScene, api.SceneDeep, true)
	wantFits(t, nested(25, num(1)), api.MaxScene, api.SceneDeep, false)
	wantFits(t, num(1), 1, 1, true)
	few := []int{-1 << 63, -1000, -2, -1, 0, 1, 2, 3, 4, 5, 100, 1<<63 - 1}
	for _, x := range []api.Term{num(1), list(), list(num(1)), list(num(1), num(2)), list(list(num(1)), num(2)), none(), row(api.Node{}), pairs(num(2), num(0), num(1), num(0))} {
		for _, most := range few {
			for _, deep := range few {
				wantFits(t, x, most, deep, fits(x, most, deep))
			}
		}
	}
	// Bytes have one limit, whatever the others are.
	wantFits(t, text(string(make([]byte, 201))), 1000, 1000, false)
}

// P4.1: terms of all sorts, by the chapter's words.
func TestRightMany(t *testing.T) {
	r := rand.New(rand.NewSource(51))
	fine := 0
	for range 100000 {
		x := anyTerm(r)
		y, is := grown(x)
		if is {
			wantDeep(t, "any", x, y.deep())
		} else {
			wantDeep(t, "any", x, 0)
		}
		wantRight(t, "any", x, fits(x, 100, 16))
		most, deep := r.Intn(20)-1, r.Intn(7)-1
		wantFits(t, x, most, deep, fits(x, most, deep))
		if Right(x) {
			fine++
		}
	}
	if fine < 10000 || fine > 90000 {
		t.Errorf("%d of 100000 are right", fine)
	}
}

// P4.1: maps whose keys are any terms, in any order.
func TestKeys(t *testing.T) {
	r := rand.New(rand.NewSource(52))
	rising := 0
	for range 50000 {
		var l []api.Term
		for range 2 + r.Intn(2) {
			l = append(l, anyRight(r, 1+r.Intn(3)), anyRight(r, 2))
		}
		x := pairs(l...)
		wantFits(t, x, 10000, 100, fits(x, 10000, 100))
		if fits(x, 10000, 100) {
			rising++
		}
	}
	if rising < 5000 || rising > 45000 {
		t.Errorf("%d of 50000 rise", rising)
	}
}

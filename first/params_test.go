package first_test

import (
	"fmt"
	"math/rand"
	"testing"

	"moidore/api"
	"moidore/first"
)

func wantParams(t *testing.T, name string, p api.Params, wanted bool) {
	t.Helper()
	if plainParams(p) != wanted {
		t.Errorf("%s: told plainly not %t", name, wanted)
	}
	if first.Params(p) != wanted {
		t.Errorf("%s: not %t", name, wanted)
	}
	// What Ask asks of params is the same.
	c := pay()
	c.params = p
	if c = c.sealed(); (c.reason() == api.ReasonShape) == wanted {
		t.Errorf("%s: asked with a transaction: %d", name, c.reason())
	}
}

// ends is params with all numbers at one end.
func ends(end func(numbers) int64) api.Params {
	var p api.Params
	for _, x := range allNumbers() {
		x.set(&p, end(x))
	}
	return p
}

// P15.1: at each end of each number, and one past it, the others being at either end.
func TestParams(t *testing.T) {
	t.Parallel()
	low, high := ends(func(x numbers) int64 { return x.least }), ends(func(x numbers) int64 { return x.most })
	wantParams(t, "nothing", api.Params{}, false)
	wantParams(t, "the example's", pay().params, true)
	for name, p := range map[string]api.Params{"the least": low, "the most": high, "others": params()} {
		wantParams(t, name, p, true)
		for _, x := range allNumbers() {
			for n, wanted := range map[int64]bool{
				x.least: true, x.least + 1: true, x.most: true, x.most - 1: true, (x.least + x.most) / 2: true,
				x.least - 1: false, x.most + 1: false, -2: false, least: false, most: false, 1 << 32: false, x.most + 1<<32: false, -1 << 32: false,
			} {
				q := p
				x.set(&q, n)
				wantParams(t, fmt.Sprint(name, ", ", x.name, " ", n), q, wanted)
			}
		}
	}
}

// P15.1: any params.
func TestAnyParams(t *testing.T) {
	t.Parallel()
	r := rand.New(rand.NewSource(1501))
	count := map[bool]int{}
	for range 2000 {
		p := ends(func(x numbers) int64 {
			if r.Intn(20) == 0 {
				return []int64{x.least - 1, x.most + 1, int64(r.Uint64())}[r.Intn(3)]
			}
			return x.least + r.Int63n(x.most-x.least+1)
		})
		wanted := plainParams(p)
		if first.Params(p) != wanted {
			t.Errorf("%+v: not %t", p, wanted)
		}
		count[wanted]++
	}
	if count[true] < 500 || count[false] < 500 {
		t.Error(count)
	}
}

package first_test

import (
	"math/big"
	"slices"
	"testing"

	"moidore/api"
	"moidore/wots"
)

// wantKept wants that nothing is lost, and nothing comes of nothing, of what is Fine.
func wantKept(t *testing.T, name string, c ask) {
	t.Helper()
	if r := c.reason(); r != api.Fine {
		t.Errorf("%s: %d", name, r)
	}
	b := c.tx.Body
	in, out := sums{}, sums{}
	in.putAll(1, c.takes())
	in.put(1, api.Value{Assets: b.Mint})
	out.putAll(1, b.Outputs)
	out.put(1, val(b.Fee))
	if len(in) != len(out) {
		t.Errorf("%s: %v, not %v", name, out, in)
	}
	for x, n := range in {
		if out[x] == nil || out[x].Cmp(n) != 0 {
			t.Errorf("%s: %v of %v, not %v", name, out[x], x, n)
		}
	}
	lost := sums{}
	lost.putAll(1, c.risks())
	lost.putAll(-1, b.Return)
	if lost.assets() {
		t.Errorf("%s: assets of the collateral are lost: %v", name, lost)
	}
	// The part that is asked for: a hundred times the coins are at least Percent times the fee.
	if part := new(big.Int).Mul(lost.coins(), big.NewInt(100)); len(c.tx.Redeemers) > 0 && part.Cmp(mul(b.Fee, c.params.Percent)) < 0 || part.Sign() < 0 {
		t.Errorf("%s: %v coins are lost", name, lost.coins())
	}
	if len(c.tx.Redeemers) == 0 && len(lost) > 0 {
		t.Errorf("%s: collateral without programs", name)
	}
}

// P15.3: the sums of what is Fine.
func TestKept(t *testing.T) {
	t.Parallel()
	for name, c := range fine() {
		wantKept(t, name, c.sealed())
	}
	for _, x := range fullBends() {
		if x.reason == api.Fine {
			wantKept(t, x.name, bent(full(), x))
		}
	}
}

// P15.3: what is Fine is not any more, if a part of its body, of its data, or of its signatures is turned: all of that is signed, or signs. The flag is not.
func TestTurned(t *testing.T) {
	t.Parallel()
	for name, c := range map[string]ask{"the full one": full(), "the example": pay(), "an input as collateral": fine()["an input as collateral"]} {
		c = c.sealed()
		for _, x := range turns(&c.tx) {
			wanted := x.name == " Valid turned"
			if x.do(); (c.reason() == api.Fine) != wanted {
				t.Errorf("%s:%s: %d", name, x.name, c.reason())
			}
			x.undo()
		}
		if c.reason() != api.Fine {
			t.Fatalf("%s: %d in the end", name, c.reason())
		}
	}
}

// P15.3: what is Fine hangs on what it takes, and on nothing else of the view.
func TestOtherEntries(t *testing.T) {
	t.Parallel()
	for name, c := range fine() {
		c = c.sealed()
		had := c.view
		c.view = nil
		for _, e := range had {
			if len(outs([]api.Entry{e}, slices.Concat(c.tx.Body.Inputs, c.tx.Body.Collateral)...)) > 0 {
				c.view = append(c.view, e)
			}
		}
		wantKept(t, name+", of just what it takes", c)
		c.view = append([]api.Entry{entry(ref(0, 0), keyed(keys[1], val(most, some(30, most)...)))}, c.view...)
		c.view = append(c.view, entry(ref(99, 30), locked(prog(2, 9), num(1), val(5))))
		wantKept(t, name+", amid others", c)
	}
}

// P15.3: none but its owners may sign, and none of these for another transaction.
func TestSigners(t *testing.T) {
	t.Parallel()
	for name, c := range fine() {
		c = c.sealed()
		other := c
		other.tx.Body.From++
		other = other.sealed()
		for i := range c.tx.Signatures {
			mine := c.tx.Signatures[i]
			for what, s := range map[string]api.Signature{
				"another's": wots.Sign([]byte("another"), idOf(c.tx)), "an empty seed's": wots.Sign(nil, idOf(c.tx)), "one of another transaction": other.tx.Signatures[i],
			} {
				c.tx.Signatures[i] = s
				wantAlone(t, name+", signed by "+what, c, api.ReasonSign)
			}
			c.tx.Signatures[i] = mine
		}
		wantAlone(t, name, c, api.Fine)
	}
}

package first_test

import (
	"fmt"
	"testing"

	"moidore/api"
)

// short is a thing as it is told of, not too long to be shown.
func short(x any) string {
	s := fmt.Sprintf("%+v", x)
	if len(s) > 600 {
		return s[:600] + ".."
	}
	return s
}

// wantReason wants just that reason, which must be the one that is told plainly too.
func wantReason(t *testing.T, name string, c ask, wanted api.Reason) {
	t.Helper()
	if told := plain(c); told != wanted {
		t.Errorf("%s: told plainly %d, not %d: all that is met is %v", name, told, wanted, met(c))
	}
	if got := c.reason(); got != wanted {
		t.Errorf("%s: %d, not %d", name, got, wanted)
	}
}

// wantAlone wants just that reason, and that no other one is met.
func wantAlone(t *testing.T, name string, c ask, wanted api.Reason) {
	t.Helper()
	wantReason(t, name, c, wanted)
	if l := met(c); wanted != api.Fine && len(l) != 1 {
		t.Errorf("%s: meets %v", name, l)
	}
}

// The chapter's example.
func TestExample(t *testing.T) {
	wantAlone(t, "the example", pay().sealed(), api.Fine)
	for fee, wanted := range map[int64]api.Reason{9: api.ReasonFee, 10: api.Fine, 11: api.ReasonSum} {
		c := pay()
		c.tx.Body.Fee = fee
		wantReason(t, fmt.Sprint("the fee ", fee), c.sealed(), wanted)
	}
	c := pay()
	c.tx.Body.Fee, c.tx.Body.Outputs[0].Value.Coin = 9, 41
	wantAlone(t, "the fee 9, and 41 coins", c.sealed(), api.ReasonFee)
	c.tx.Body.Fee, c.tx.Body.Outputs[0].Value.Coin = 11, 39
	wantAlone(t, "the fee 11, and 39 coins", c.sealed(), api.Fine)
	wantReason(t, "not signed", pay(), api.ReasonData)
	c = pay()
	c.hash()
	wantAlone(t, "not signed", c, api.ReasonSign)
}

func TestFull(t *testing.T) {
	wantAlone(t, "the full one", full().sealed(), api.Fine)
}

package tx

import (
	"slices"

	"moidore/api"
)

// Limits that have no name in package api.
const (
	mostReturn     = 1
	mostSignatures = 60
	mostRedeemers  = 60
)

// noEnd is the To of a body that is for all slots from its From on.
const noEnd = -1

// wrong is what is thrown instead of a thing that is not right.
const wrong = api.ErrShape

// must throws, unless all that it is given is so.
func must(so ...bool) {
	if slices.Contains(so, false) {
		panic(wrong)
	}
}

// mustBody throws a body whose numbers may not be. Its rows are asked where they are put or got.
func mustBody(b api.Body) {
	must(b.Fee >= 0, isSlot(b.From), b.To == noEnd || isSlot(b.To))
}

func isSlot(n int64) bool { return n >= 0 && n <= api.MaxSlot }

// mustRedeemer throws a redeemer whose purpose or budget may not be. Its place may be any that has two bytes: wire asks this, and pack asks its term.
func mustRedeemer(x api.Redeemer) {
	must(x.Purpose == api.PurposeSpend || x.Purpose == api.PurposeMint, inBudget(x.Budget.Steps), inBudget(x.Budget.Memory))
}

func inBudget(n int64) bool { return n >= 0 && n <= api.MaxBudget }

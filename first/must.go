package first

import (
	"slices"

	"moidore/api"
)

// all says whether all that it is given is so.
func all(so ...bool) bool { return !slices.Contains(so, false) }

// must throws a reason, unless all that it is given is so.
func must(r api.Reason, so ...bool) {
	if !all(so...) {
		panic(r)
	}
}

// thrown is the reason that asks throw, one behind the other; Fine, if they throw none.
func thrown(asks []func()) (r api.Reason) {
	r = api.ReasonShape // so that nothing is Fine but what was asked to its end
	defer func() {
		if met, is := recover().(api.Reason); is {
			r = met
		}
	}()
	for _, ask := range asks {
		ask()
	}
	return api.Fine
}

// upTo says whether a number is from 0 to most.
func upTo[T int | int64](n, most T) bool { return n >= 0 && n <= most }

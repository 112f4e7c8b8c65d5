package view

import (
	"moidore/api"
	"moidore/pack"
)

// sight is a view at work.
type sight struct{ entries }

// sightOf is a view; it throws entries that are none.
func sightOf(l []api.Entry) sight {
	must(pack.RightEntries(l))
	s := sight{entries{}}
	s.put(l...)
	return s
}

// turn makes the view the one behind d; it throws a diff that does not fit. No ref stands in both rows of a right diff, so that what goes makes no room for what comes.
func (s sight) turn(d api.Diff) {
	must(pack.RightDiff(d))
	s.take(d.Spent...)
	s.put(d.Made...)
}

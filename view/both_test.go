package view_test

import (
	"math/rand"
	"testing"

	"moidore/api"
	"moidore/pack"
	"moidore/view"
)

// walk is some view, and diffs of many sorts, each of which fits the view behind those ahead of it; and all these views.
func walk(r *rand.Rand) ([][]api.Entry, []api.Diff) {
	refs := rising()
	views := [][]api.Entry{anyOf(r, refs, 1+r.Intn(4))}
	var diffs []api.Diff
	for range r.Intn(6) {
		l := views[len(views)-1]
		d := anyFit(r, l, refs)
		next, _ := applied(l, d)
		views, diffs = append(views, next), append(diffs, d)
	}
	return views, diffs
}

// P13.4: Undo takes back what Apply did, to the view as it was; and Apply what Undo did.
func TestThereAndBack(t *testing.T) {
	t.Parallel()
	r := rand.New(rand.NewSource(1305))
	for range 1500 {
		views, diffs := walk(r)
		l := views[0]
		for i, d := range diffs {
			next, is := view.Apply(l, d)
			want(t, "applied", next, is, views[i+1], true)
			back, is := view.Undo(next, d)
			want(t, "undone", back, is, l, true)
			again, is := view.Apply(back, d)
			want(t, "applied again", again, is, next, true)
			l = next
		}
		for i := len(diffs) - 1; i >= 0; i-- {
			ahead, is := view.Undo(l, diffs[i])
			want(t, "undone, one behind the other", ahead, is, views[i], true)
			l = ahead
		}
	}
}

// P13.4: where Undo tells a view, Apply leads back, whatever view and diff there are; and the other way round.
func TestBackAndThere(t *testing.T) {
	t.Parallel()
	r := rand.New(rand.NewSource(1306))
	refs := rising()
	seen := 0
	for range 3000 {
		l := anyOf(r, refs, 1+r.Intn(4))
		d := anyFit(r, l, refs)
		if r.Intn(2) == 0 {
			d.Spent, d.Made = d.Made, d.Spent
		}
		if r.Intn(4) == 0 {
			d = spoilt(r, d)
		}
		if ahead, is := view.Undo(l, d); is {
			seen++
			behind, so := view.Apply(ahead, d)
			want(t, "undone and applied", behind, so, l, true)
		}
		if behind, is := view.Apply(l, d); is {
			seen++
			ahead, so := view.Undo(behind, d)
			want(t, "applied and undone", ahead, so, l, true)
		}
	}
	if seen < 1500 {
		t.Error(seen)
	}
}

// P13.4: what diffs do one behind the other, their Join does, and Undo of that takes them back all at once; so of each of their beginnings.
func TestJoinDoesAll(t *testing.T) {
	t.Parallel()
	r := rand.New(rand.NewSource(1307))
	long := 0
	for range 3000 {
		views, diffs := walk(r)
		for n := range len(diffs) + 1 {
			all, is := view.Join(diffs[:n]...)
			if !is {
				break
			}
			if n > 1 {
				long++
			}
			if !pack.RightDiff(all) {
				t.Errorf("not right: %s", short(all))
			}
			behind, is := view.Apply(views[0], all)
			want(t, "applied", behind, is, views[n], true)
			ahead, is := view.Undo(views[n], all)
			want(t, "undone", ahead, is, views[0], true)
		}
	}
	if long < 1000 {
		t.Error(long)
	}
}

// P13.4: diffs of which none makes anew what one ahead spent are joined, if their sums fit.
func TestJoinIs(t *testing.T) {
	t.Parallel()
	r := rand.New(rand.NewSource(1308))
	for range 2000 {
		views, diffs := walk(r)
		is := true
		spent := map[api.Ref]int{}
		fees, forfeits := int64(0), int64(0)
		for _, d := range diffs {
			is = is && mostOfTwo(fees, d.Fees) && mostOfTwo(forfeits, d.Forfeits)
			fees, forfeits = fees+d.Fees, forfeits+d.Forfeits
			for _, e := range d.Spent {
				if stands(views[0], e.Ref) {
					spent[e.Ref]++
				}
			}
			for _, e := range d.Made {
				is = is && spent[e.Ref] == 0
			}
		}
		if _, so := view.Join(diffs...); so != is {
			t.Errorf("%t, not %t: %s", so, is, short(diffs))
		}
	}
}

// P13.3, P13.4: to join some, and then the others one by one, is to join all.
func TestJoinOfJoins(t *testing.T) {
	t.Parallel()
	r := rand.New(rand.NewSource(1309))
	for range 1500 {
		_, diffs := walk(r)
		all, is := view.Join(diffs...)
		for n := range len(diffs) + 1 {
			first, so := view.Join(diffs[:n]...)
			for _, d := range diffs[n:] {
				if so {
					first, so = view.Join(first, d)
				}
			}
			want(t, "joined one by one", first, so, all, is)
		}
	}
}

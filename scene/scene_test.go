package scene_test

import (
	"fmt"
	"slices"
	"testing"

	"moidore/api"
	"moidore/scene"
	"moidore/term"
)

// short is a thing as it is told of, not too long to be shown.
func short(x any) string {
	s := fmt.Sprintf("%+v", x)
	if len(s) > 600 {
		return s[:600] + ".."
	}
	return s
}

// wantTerm tells of a term that is not the one that is wanted.
func wantTerm(t *testing.T, name string, got, wanted api.Term) {
	t.Helper()
	if !slices.Equal(got.Nodes, wanted.Nodes) {
		t.Errorf("%s: %s, not %s", name, short(got), short(wanted))
	}
}

// wantScene wants a scene, and just the one that is told plainly.
func wantScene(t *testing.T, name string, x api.Tx, l []api.Entry, purpose api.PurposeKind, place int) {
	t.Helper()
	got := scene.Of(x, l, purpose, place)
	if len(got.Nodes) == 0 {
		t.Errorf("%s: none of %s", name, short(x))
	}
	wantTerm(t, name, got, plainScene(x, l, purpose, place))
}

func wantNone(t *testing.T, name string, x api.Tx, l []api.Entry, purpose api.PurposeKind, place int) {
	t.Helper()
	if got := scene.Of(x, l, purpose, place); len(got.Nodes) > 0 {
		t.Errorf("%s: %s, not none", name, short(got))
	}
}

// The chapter's example.
func TestExample(t *testing.T) {
	third, is := term.Kid(scene.Of(small(), nil, api.PurposeSpend, 0), 2)
	if !is {
		t.Fatal("no third kid")
	}
	wantTerm(t, "the third kid", third, nodes(
		api.Node{Kind: api.TermList, Kids: 1},
		api.Node{Kind: api.TermList, Kids: 4},
		api.Node{Kind: api.TermTag, Int: 0, Kids: 1}, api.Node{Kind: api.TermBytes, Bytes: hx(1, 2)},
		api.Node{Kind: api.TermInt, Int: 5},
		api.Node{Kind: api.TermList},
		api.Node{Kind: api.TermTag, Int: 0},
	))
}

// P14.1: the scene of a transaction with nothing but one output, node by node.
func TestSmall(t *testing.T) {
	x := small()
	wantTerm(t, "one output", scene.Of(x, nil, api.PurposeMint, 3), nodes(
		api.Node{Kind: api.TermList, Kids: 10},
		api.Node{Kind: api.TermBytes, Bytes: plainHash(idOf(x))},
		api.Node{Kind: api.TermList},
		api.Node{Kind: api.TermList, Kids: 1},
		api.Node{Kind: api.TermList, Kids: 4},
		api.Node{Kind: api.TermTag, Kids: 1}, api.Node{Kind: api.TermBytes, Bytes: hx(1, 2)},
		api.Node{Kind: api.TermInt, Int: 5}, api.Node{Kind: api.TermList}, api.Node{Kind: api.TermTag},
		api.Node{Kind: api.TermInt}, api.Node{Kind: api.TermInt}, api.Node{Kind: api.TermInt},
		api.Node{Kind: api.TermList}, api.Node{Kind: api.TermList},
		api.Node{Kind: api.TermInt, Int: 2}, api.Node{Kind: api.TermInt, Int: 3},
	))
	wantTerm(t, "nothing", scene.Of(api.Tx{}, nil, api.PurposeSpend, 0), termOf(listed{
		plainHash(idOf(api.Tx{})), listed{}, listed{}, int64(0), int64(0), int64(0), listed{}, listed{}, int64(1), int64(0),
	}))
}

// P14.1: the scene of a transaction with all sorts of things, written down by hand.
func TestFull(t *testing.T) {
	x := full()
	inputs := listed{
		listed{listed{hx(0x10, 1), int64(30)}, listed{tagged{1, listed{hx(5, 6)}}, int64(50), listed{listed{hx(7, 0), "q", int64(8)}}, tagged{2, listed{tagged{3, listed{int64(4)}}}}}},
		listed{listed{hx(0x10, 2), int64(0)}, listed{tagged{0, listed{hx(1, 2)}}, int64(60), listed{}, tagged{0, nil}}},
		listed{listed{hx(0x20, 0), int64(7)}, listed{tagged{1, listed{hx(3, 4)}}, int64(70), listed{}, tagged{1, listed{hx(0x60, 0x61)}}}},
	}
	made := listed{
		listed{tagged{0, listed{hx(1, 2)}}, int64(5), listed{}, tagged{0, nil}},
		listed{tagged{1, listed{hx(3, 4)}}, int64(6), listed{listed{hx(1, 0), "", int64(1)}, listed{hx(1, 0), "ab", int64(most)}}, tagged{1, listed{hx(0x40, 0x41)}}},
		listed{tagged{1, listed{hx(5, 6)}}, int64(most), listed{}, tagged{2, listed{listed{int64(-1), "xyz"}}}},
	}
	minted := listed{listed{hx(1, 0), "", int64(-4)}, listed{hx(1, 0), "ab", int64(least)}, listed{hx(2, 0), "z", int64(5)}}
	wantTerm(t, "all sorts", scene.Of(x, taken(x), api.PurposeSpend, 65535), termOf(listed{
		plainHash(idOf(x)), inputs, made, int64(11), int64(12), int64(13), minted, listed{key("one"), key("other")}, int64(1), int64(65535),
	}))
}

// P14.1: the scene of each right transaction is as it is told plainly.
func TestRight(t *testing.T) {
	t.Parallel()
	for _, b := range rightBends() {
		x := b.bent()
		wantScene(t, b.name, x, taken(x), api.PurposeSpend, 0)
		wantScene(t, b.name, x, taken(x), api.PurposeMint, 9)
	}
}

// P14.1: no scene of a transaction one of whose parts is not right, each in its turn.
func TestWrong(t *testing.T) {
	t.Parallel()
	for _, b := range wrongBends() {
		x := b.bent()
		wantNone(t, b.name, x, taken(x), api.PurposeSpend, 0)
		wantNone(t, b.name, x, taken(x), api.PurposeMint, 9)
	}
}

// P14.1: just two purposes.
func TestPurpose(t *testing.T) {
	t.Parallel()
	for _, x := range []api.Tx{small(), full()} {
		for _, p := range []api.PurposeKind{api.PurposeSpend, api.PurposeMint} {
			wantScene(t, fmt.Sprint("the purpose ", p), x, taken(x), p, 0)
		}
		for _, p := range []api.PurposeKind{0, 3, 4, -1, -2, 255, 256, 257, 258, 1<<16 + 1, 1<<32 + 1, 1<<32 + 2, least, least + 1, most} {
			wantNone(t, fmt.Sprint("the purpose ", p), x, taken(x), p, 0)
		}
	}
}

// P14.1: places from 0 to 2^16 - 1, whatever is there.
func TestPlace(t *testing.T) {
	t.Parallel()
	for _, x := range []api.Tx{small(), full()} {
		for _, p := range []api.PurposeKind{api.PurposeSpend, api.PurposeMint} {
			for _, n := range []int{0, 1, 2, 3, 30, 255, 256, 1<<15 - 1, 1 << 15, 1<<16 - 2, 1<<16 - 1} {
				wantScene(t, fmt.Sprint("the place ", n), x, taken(x), p, n)
			}
			for _, n := range []int{-1, -2, -1 << 16, 1 << 16, 1<<16 + 1, 1 << 17, 1 << 32, 1<<32 + 1, least, most} {
				wantNone(t, fmt.Sprint("the place ", n), x, taken(x), p, n)
			}
		}
	}
}

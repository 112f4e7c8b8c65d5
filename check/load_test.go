package check

import (
	"fmt"
	"strings"
	"testing"

	"moidore/api"
)

// wantAfter wants of an instruction, reached with s on the way from the beginning, that it leaves just what is wanted, or that it is there that the program does not fit.
func wantAfter(t *testing.T, s string, i api.Instr, left string, e api.Errno) {
	t.Helper()
	before := push(s)
	at := len(before)
	p := prog(0, append(before, i, fail())...)
	name := fmt.Sprintf("the Op %d, %d, behind %q", i.Op, i.Num, s)
	if e != api.OK {
		wantLoad(t, name, p, 0, at, e)
		return
	}
	if _, _, f := Load(p); f != api.OK {
		t.Errorf("%s: %d", name, f)
	}
	wantStack(t, name, p, at, s)
	wantStack(t, name, p, at+1, left)
}

// wantAsSaid wants of an instruction, reached with s, what the chapter's words say.
func wantAsSaid(t *testing.T, s string, i api.Instr) api.Errno {
	t.Helper()
	left, e := after(i, s)
	wantAfter(t, s, i, left, e)
	return e
}

// straight says whether an Op goes on at the next instruction alone.
func straight(k api.OpKind) bool {
	return k != api.OpJump && k != api.OpUnless && k != api.OpFail && k != api.OpDone
}

// P9.1: each Op with just what the table says, line by line; with one fewer; with each other type in each place.
func TestTable(t *testing.T) {
	for k := api.OpPushInt; k <= api.OpDone; k++ {
		if !straight(k) || k == api.OpTake || k == api.OpDrop {
			continue
		}
		takes, gives, _ := strings.Cut(line(k), ">")
		if k == api.OpMakeList || k == api.OpMakeTag {
			takes, gives = "ttt", "t"
		}
		i := anOp(k, 3)
		wantAfter(t, takes, i, gives, api.OK)
		for _, below := range texts(1) {
			wantAfter(t, below+takes, i, below+gives, api.OK)
		}
		for at := range takes {
			wantAfter(t, takes[at+1:], i, "", api.ErrStack)
			wantAfter(t, takes[:at], i, "", api.ErrStack)
			for _, x := range texts(1) {
				if other := takes[:at] + x + takes[at+1:]; other != takes {
					wantAfter(t, other, i, "", api.ErrType)
					wantAfter(t, "tt"+other, i, "", api.ErrType)
				}
			}
		}
	}
}

// P9.1: each Op behind each stack of up to three types, and Nums below, at and above what is there.
func TestEachStack(t *testing.T) {
	told := map[api.Errno]int{}
	for high := range 4 {
		for _, s := range texts(high) {
			for k := api.OpPushInt; k <= api.OpDone; k++ {
				nums := int64(1)
				if k == api.OpTake || k == api.OpDrop || k == api.OpMakeList || k == api.OpMakeTag {
					nums = 5
				}
				for n := range nums {
					if straight(k) {
						told[wantAsSaid(t, s, anOp(k, n))]++
					}
				}
			}
		}
	}
	for _, e := range []api.Errno{api.OK, api.ErrStack, api.ErrType} {
		if told[e] < 1000 {
			t.Errorf("%d was told just %d times", e, told[e])
		}
	}
}

// P9.1, P9.2: stacks of many types: what is taken, goes, is put together, is at the end.
func TestBelow(t *testing.T) {
	wantAfter(t, "irbft", takeAt(0), "irbftt", api.OK)
	wantAfter(t, "irbft", takeAt(1), "irbftf", api.OK)
	wantAfter(t, "irbft", takeAt(2), "irbftb", api.OK)
	wantAfter(t, "irbft", takeAt(4), "irbfti", api.OK)
	wantAfter(t, "irbft", takeAt(5), "", api.ErrStack)
	wantAfter(t, "irbft", dropAt(0), "irbf", api.OK)
	wantAfter(t, "irbft", dropAt(2), "irft", api.OK)
	wantAfter(t, "irbft", dropAt(4), "rbft", api.OK)
	wantAfter(t, "irbft", dropAt(5), "", api.ErrStack)
	wantAfter(t, "", takeAt(0), "", api.ErrStack)
	wantAfter(t, "", dropAt(0), "", api.ErrStack)
	wantAfter(t, "irbfbii", op(api.OpCut), "irbfb", api.OK)
}

// P9.1: OpTake and OpDrop with each Num, OpMakeList and OpMakeTag of each number of kids, behind stacks of each height.
func TestHeights(t *testing.T) {
	for high := range api.MaxStack + 1 {
		s := strings.Repeat("irt", 20)[:high]
		terms := strings.Repeat("t", high)
		for n := range int64(api.MaxStack) {
			wantAsSaid(t, s, opNum(api.OpTake, n))
			wantAsSaid(t, s, opNum(api.OpDrop, n))
		}
		for n := range int64(api.MaxStack + 1) {
			wantAsSaid(t, terms, opNum(api.OpMakeList, n))
			wantAsSaid(t, terms, anOp(api.OpMakeTag, n))
		}
		if high > 0 {
			wantAsSaid(t, "i"+terms[1:], opNum(api.OpMakeList, int64(high)))
			wantAsSaid(t, terms[1:]+"i", opNum(api.OpMakeList, int64(high)))
			wantAfter(t, "i"+terms[1:], opNum(api.OpMakeList, int64(high-1)), "it", api.OK)
		}
	}
}

// P9.1: the highest stack is one of MaxStack; one more is too high, at the instruction that would leave it.
func TestMaxStack(t *testing.T) {
	full := strings.Repeat("t", api.MaxStack)
	for _, i := range []api.Instr{pushInt(1), anOp(api.OpPushReal, 0), pushTerm(), takeAt(0), takeAt(38), opNum(api.OpMakeList, 0), anOp(api.OpMakeTag, 0)} {
		left, e := after(i, full[1:])
		if len(left) != api.MaxStack || e != api.OK {
			t.Fatal(left, e)
		}
		wantAfter(t, full[1:], i, left, api.OK)
		wantAfter(t, full, i, "", api.ErrStack)
	}
	wantAfter(t, full, takeAt(39), "", api.ErrStack)
	for _, i := range []api.Instr{op(api.OpAsReal), opNum(api.OpMakeList, 1), opNum(api.OpMakeList, 40), op(api.OpTermSame), dropAt(39)} {
		wantAsSaid(t, full, i)
	}
	for high := 1; high <= 45; high++ {
		p := prog(0, append(times(high, pushInt(0)), fail())...)
		if high <= 40 {
			wantLoad(t, "ints", p, high, 0, api.OK)
		} else {
			wantLoad(t, "ints", p, 0, 40, api.ErrStack)
		}
		p.Args = 3
		if high <= 37 {
			wantLoad(t, "ints above arguments", p, high+3, 0, api.OK)
		} else {
			wantLoad(t, "ints above arguments", p, 0, 37, api.ErrStack)
		}
	}
	// A stack that is high amid the program alone.
	p := prog(1, row(times(25, pushInt(0)), times(20, dropAt(0)), []api.Instr{fail()})...)
	wantLoad(t, "high amid", p, 26, 0, api.OK)
}

// P9.1, P9.2: the instruction 0 is reached with the arguments; they count where nothing is above them.
func TestArgs(t *testing.T) {
	for args := range 4 {
		terms := strings.Repeat("t", args)
		p := prog(args, fail())
		wantLoad(t, "OpFail alone", p, args, 0, api.OK)
		wantStack(t, "OpFail alone", p, 0, terms)
		p = prog(args, append(times(args, dropAt(0)), fail())...)
		wantLoad(t, "all go", p, args, 0, api.OK)
		wantStack(t, "all go", p, args, "")
		wantLoad(t, "one more goes", prog(args, append(times(args+1, dropAt(0)), fail())...), 0, args, api.ErrStack)
		wantLoad(t, "all in a list", prog(args, opNum(api.OpMakeList, int64(args)), fail()), max(args, 1), 0, api.OK)
		wantLoad(t, "one more in a list", prog(args, opNum(api.OpMakeList, int64(args)+1), fail()), 0, 0, api.ErrStack)
	}
}

// P9.1: OpDone with one bool, with none, with two, with others; OpFail with anything.
func TestEnds(t *testing.T) {
	done := op(api.OpDone)
	for high := range 4 {
		for _, s := range texts(high) {
			before := push(s)
			want := api.ErrType
			if s == "f" {
				want = api.OK
			} else if high != 1 {
				want = api.ErrStack
			}
			if p := prog(0, append(before, done)...); want != api.OK {
				wantLoad(t, "OpDone", p, 0, len(before), want)
			} else {
				wantLoad(t, "OpDone", p, 2, 0, want)
				wantStack(t, "OpDone", p, len(before), "f")
			}
			p := prog(0, append(before, fail())...)
			if _, _, e := Load(p); e != api.OK {
				t.Errorf("OpFail behind %q: %d", s, e)
			}
			wantStack(t, "OpFail", p, len(before), s)
		}
	}
	for args := range 4 {
		e := api.ErrStack
		if args == 1 {
			e = api.ErrType
		}
		wantLoad(t, "OpDone", prog(args, done), 0, 0, e)
	}
	full := prog(0, append(times(40, pushInt(0)), done)...)
	wantLoad(t, "OpDone behind 40", full, 0, 40, api.ErrStack)
}

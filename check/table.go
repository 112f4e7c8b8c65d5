package check

import (
	"slices"

	"moidore/api"
)

// effect is what an instruction takes from the end of a stack, and what it gives in place of it.
type effect struct{ takes, gives []api.TypeKind }

// take is an effect that gives nothing yet.
func take(l ...api.TypeKind) effect { return effect{takes: l} }

// give is e, giving the types of l.
func (e effect) give(l ...api.TypeKind) effect { return effect{e.takes, l} }

// table is what Ops take and give. Those whose Num says what they take do not stand there.
type table map[api.OpKind]effect

func effects() table {
	ints := take(api.TypeInt, api.TypeInt)
	reals := take(api.TypeReal, api.TypeReal)
	bytes := take(api.TypeBytes, api.TypeBytes)
	bools := take(api.TypeBool, api.TypeBool)
	return table{
		api.OpPushInt:   take().give(api.TypeInt),
		api.OpPushReal:  take().give(api.TypeReal),
		api.OpPushTerm:  take().give(api.TypeTerm),
		api.OpJump:      take(),
		api.OpUnless:    take(api.TypeBool),
		api.OpAdd:       ints.give(api.TypeInt),
		api.OpSub:       ints.give(api.TypeInt),
		api.OpMul:       ints.give(api.TypeInt),
		api.OpDiv:       ints.give(api.TypeInt),
		api.OpMod:       ints.give(api.TypeInt),
		api.OpNeg:       take(api.TypeInt).give(api.TypeInt),
		api.OpIntLess:   ints.give(api.TypeBool),
		api.OpIntSame:   ints.give(api.TypeBool),
		api.OpRealAdd:   reals.give(api.TypeReal),
		api.OpRealSub:   reals.give(api.TypeReal),
		api.OpRealMul:   reals.give(api.TypeReal),
		api.OpRealDiv:   reals.give(api.TypeReal),
		api.OpRealSqrt:  take(api.TypeReal).give(api.TypeReal),
		api.OpRealNeg:   take(api.TypeReal).give(api.TypeReal),
		api.OpRealLess:  reals.give(api.TypeBool),
		api.OpRealSame:  reals.give(api.TypeBool),
		api.OpRealOrder: reals.give(api.TypeInt),
		api.OpToReal:    take(api.TypeInt).give(api.TypeReal),
		api.OpToInt:     take(api.TypeReal).give(api.TypeInt),
		api.OpCat:       bytes.give(api.TypeBytes),
		api.OpCut:       take(api.TypeBytes, api.TypeInt, api.TypeInt).give(api.TypeBytes),
		api.OpLong:      take(api.TypeBytes).give(api.TypeInt),
		api.OpSum:       take(api.TypeBytes).give(api.TypeBytes),
		api.OpBytesLess: bytes.give(api.TypeBool),
		api.OpBytesSame: bytes.give(api.TypeBool),
		api.OpNot:       take(api.TypeBool).give(api.TypeBool),
		api.OpAnd:       bools.give(api.TypeBool),
		api.OpOr:        bools.give(api.TypeBool),
		api.OpMakeInt:   take(api.TypeInt).give(api.TypeTerm),
		api.OpMakeBytes: take(api.TypeBytes).give(api.TypeTerm),
		api.OpMakeReal:  take(api.TypeReal).give(api.TypeTerm),
		api.OpAsInt:     take(api.TypeTerm).give(api.TypeInt),
		api.OpAsBytes:   take(api.TypeTerm).give(api.TypeBytes),
		api.OpAsReal:    take(api.TypeTerm).give(api.TypeReal),
		api.OpKindOf:    take(api.TypeTerm).give(api.TypeInt),
		api.OpTagOf:     take(api.TypeTerm).give(api.TypeInt),
		api.OpCount:     take(api.TypeTerm).give(api.TypeInt),
		api.OpKid:       take(api.TypeTerm, api.TypeInt).give(api.TypeTerm),
		api.OpTermSame:  take(api.TypeTerm, api.TypeTerm).give(api.TypeBool),
		api.OpFail:      take(),
		api.OpDone:      take(api.TypeBool),
	}
}

// of is what i takes from s, and gives.
func (t table) of(i api.Instr, s stack) effect {
	n := int(i.Num)
	switch i.Op {
	case api.OpTake:
		l := s.top(n + 1)
		return take(l...).give(slices.Concat(l, l[:1])...)
	case api.OpDrop:
		l := s.top(n + 1)
		return take(l...).give(l[1:]...)
	case api.OpMakeList, api.OpMakeTag:
		return take(slices.Repeat(stack{api.TypeTerm}, n)...).give(api.TypeTerm)
	case api.OpDone:
		must(len(s) == 1, api.ErrStack)
	}
	return t[i.Op]
}

// left is the stack that i leaves of s.
func (t table) left(i api.Instr, s stack) stack {
	e := t.of(i, s)
	return s.less(e.takes...).plus(e.gives...)
}

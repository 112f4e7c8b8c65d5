package check

import (
	"strings"

	"moidore/api"
	"moidore/code"
)

// line is what the chapter's table says of an Op: what it takes, and behind > what it gives. Of the Ops whose Num plays a part, and of OpDone, it says nothing.
func line(k api.OpKind) string {
	switch k {
	case api.OpPushInt:
		return ">i"
	case api.OpPushReal:
		return ">r"
	case api.OpPushTerm:
		return ">t"
	case api.OpUnless:
		return "f>"
	case api.OpAdd, api.OpSub, api.OpMul, api.OpDiv, api.OpMod:
		return "ii>i"
	case api.OpNeg:
		return "i>i"
	case api.OpIntLess, api.OpIntSame:
		return "ii>f"
	case api.OpRealAdd, api.OpRealSub, api.OpRealMul, api.OpRealDiv:
		return "rr>r"
	case api.OpRealSqrt, api.OpRealNeg:
		return "r>r"
	case api.OpRealLess, api.OpRealSame:
		return "rr>f"
	case api.OpRealOrder:
		return "rr>i"
	case api.OpToReal:
		return "i>r"
	case api.OpToInt:
		return "r>i"
	case api.OpCat:
		return "bb>b"
	case api.OpCut:
		return "bii>b"
	case api.OpLong:
		return "b>i"
	case api.OpSum:
		return "b>b"
	case api.OpBytesLess, api.OpBytesSame:
		return "bb>f"
	case api.OpNot:
		return "f>f"
	case api.OpAnd, api.OpOr:
		return "ff>f"
	case api.OpMakeInt:
		return "i>t"
	case api.OpMakeBytes:
		return "b>t"
	case api.OpMakeReal:
		return "r>t"
	case api.OpAsInt, api.OpKindOf, api.OpTagOf, api.OpCount:
		return "t>i"
	case api.OpAsBytes:
		return "t>b"
	case api.OpAsReal:
		return "t>r"
	case api.OpKid:
		return "ti>t"
	case api.OpTermSame:
		return "tt>f"
	}
	return ">" // OpJump, OpFail
}

// after is the stack that an instruction leaves of s, and the error, by the chapter's words.
func after(i api.Instr, s string) (string, api.Errno) {
	n, high := int(i.Num), len(s)
	takes, gives, _ := strings.Cut(line(i.Op), ">")
	switch i.Op {
	case api.OpTake:
		if high <= n {
			return "", api.ErrStack
		}
		gives = s[high-1-n : high-n]
	case api.OpDrop:
		if high <= n {
			return "", api.ErrStack
		}
		return s[:high-1-n] + s[high-n:], api.OK
	case api.OpMakeList, api.OpMakeTag:
		takes, gives = strings.Repeat("t", n), "t"
	case api.OpDone:
		takes = "f"
		if high != 1 {
			return "", api.ErrStack
		}
	}
	if high < len(takes) {
		return "", api.ErrStack
	}
	if !strings.HasSuffix(s, takes) {
		return "", api.ErrType
	}
	s = strings.TrimSuffix(s, takes) + gives
	if len(s) > 40 {
		return "", api.ErrStack
	}
	return s, api.OK
}

// goesOn is the places where it goes on behind an instruction.
func goesOn(i api.Instr, at int) []int {
	switch {
	case i.Op == api.OpJump:
		return []int{int(i.Num)}
	case i.Op == api.OpUnless:
		return []int{at + 1, int(i.Num)}
	case i.Op == api.OpFail || i.Op == api.OpDone:
		return nil
	}
	return []int{at + 1}
}

// verdict is what the chapter says of a program: what Load tells, and, if it loads, all its stacks.
type verdict struct {
	most, at int
	e        api.Errno
	stacks   []string
}

// judged is what the chapter's words say of p, step by step.
func judged(p api.Program) verdict {
	if !code.Right(p) {
		return verdict{e: api.ErrShape}
	}
	stands := map[int]string{0: strings.Repeat("t", p.Args)}
	isDone := map[int]bool{}
	for at := firstOf(stands, isDone); at >= 0; at = firstOf(stands, isDone) {
		s, e := after(p.Instrs[at], stands[at])
		if e != api.OK {
			return verdict{at: at, e: e}
		}
		isDone[at] = true
		for _, to := range goesOn(p.Instrs[at], at) {
			had, is := stands[to]
			if to >= len(p.Instrs) || is && had != s {
				return verdict{at: at, e: api.ErrJump}
			}
			stands[to] = s
		}
	}
	v := verdict{}
	for at := range p.Instrs {
		s, is := stands[at]
		if !is {
			return verdict{at: at, e: api.ErrJump}
		}
		v.most = max(v.most, len(s))
		v.stacks = append(v.stacks, s)
	}
	return v
}

// firstOf is the first place that is reached and not done; -1, if there is none.
func firstOf(stands map[int]string, isDone map[int]bool) int {
	first := -1
	for at := range stands {
		if !isDone[at] && (first < 0 || at < first) {
			first = at
		}
	}
	return first
}

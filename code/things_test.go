package code

import (
	"fmt"
	"maps"
	"strings"

	"moidore/api"
)

// plainOps is the Ops that have nothing.
func plainOps() []api.OpKind {
	var l []api.OpKind
	for k := api.OpKind(1); k <= 50; k++ {
		switch k {
		case api.OpPushInt, api.OpPushReal, api.OpPushTerm, api.OpTake, api.OpDrop, api.OpJump, api.OpUnless, api.OpMakeList, api.OpMakeTag:
		default:
			l = append(l, k)
		}
	}
	return l
}

func rightTerms() map[string]api.Term {
	return map[string]api.Term{
		"an int": num(-1), "bytes": text("ab"), "no bytes": text(""), "200 bytes": text(strings.Repeat("z", 200)),
		"a real": realOf(0x3FF0000000000000), "-0": realOf(minusNought), "NaN": realOf(api.NaN),
		"a list": list(num(1), list(), text("x")), "no list": list(), "a tag": tag(1<<31-1, num(2)), "tag 0": tag(0),
		"a map": pairs(num(1), num(2), num(2), num(1)), "no map": pairs(),
		"100 nodes": list(nums(99)...), "16 deep": nested(16),
	}
}

func wrongTerms() map[string]api.Term {
	return map[string]api.Term{
		"none": {}, "an empty one": {Nodes: []api.Node{}},
		"no kind": nodes(api.Node{}), "kind 7": nodes(api.Node{Kind: 7}), "kind -1": nodes(api.Node{Kind: -1}), "kind 257": nodes(api.Node{Kind: 257}),
		"an int with bytes": nodes(api.Node{Kind: api.TermInt, Bytes: "a"}), "a list with an int": nodes(api.Node{Kind: api.TermList, Int: 1}),
		"201 bytes": text(strings.Repeat("z", 201)), "a NaN from elsewhere": realOf(otherNaN),
		"tag -1": tag(-1), "tag 2^31": tag(1 << 31),
		"a key alone": pairs(num(1)), "keys that do not rise": pairs(num(2), num(1), num(1), num(1)), "a key twice": pairs(num(1), num(1), num(1), num(1)),
		"101 nodes": list(nums(100)...), "17 deep": nested(17),
		"a kid too few": nodes(api.Node{Kind: api.TermList, Kids: 2}, api.Node{Kind: api.TermInt}), "a kid too many": nodes(api.Node{Kind: api.TermList}, api.Node{Kind: api.TermInt}),
		"-1 kids": nodes(api.Node{Kind: api.TermList, Kids: -1}), "many kids": nodes(api.Node{Kind: api.TermList, Kids: most}),
	}
}

// rightInstrs is right instructions: of each Op, at each end of what it may have.
func rightInstrs() map[string]api.Instr {
	l := map[string]api.Instr{}
	add := func(x api.Instr) { l[fmt.Sprintf("Op %d, %d, %x", x.Op, x.Num, x.Bits)] = x }
	for _, k := range plainOps() {
		add(op(k))
	}
	for _, n := range []int64{least, least + 1, -1 << 31, -1, 0, 1, 255, 256, 1 << 32, most} {
		add(opNum(api.OpPushInt, n))
	}
	for _, b := range []uint64{0, 1, 0x3FF0000000000000, minusNought, infinity, 0xFFF0000000000000, api.NaN, 0x7FEFFFFFFFFFFFFF} {
		add(opBits(api.OpPushReal, b))
	}
	for _, n := range []int64{0, 1, 38, 39} {
		add(opNum(api.OpTake, n))
		add(opNum(api.OpDrop, n))
	}
	for _, n := range []int64{0, 1, 255, 256, 298, 299} {
		add(opNum(api.OpJump, n))
		add(opNum(api.OpUnless, n))
	}
	for _, n := range []int64{0, 1, 39, 40} {
		add(opNum(api.OpMakeList, n))
		for _, b := range []uint64{0, 1, 255, 256, 1 << 16, 1<<31 - 2, 1<<31 - 1} {
			add(makeTag(n, b))
		}
	}
	for name, x := range rightTerms() {
		l["the term "+name] = opTerm(api.OpPushTerm, x)
	}
	return l
}

// wrongInstrs is instructions that are not right: Ops that are none, operands that may not be, and such as an Op does not have.
func wrongInstrs() map[string]api.Instr {
	l := map[string]api.Instr{}
	add := func(x api.Instr) { l[fmt.Sprintf("Op %d, %d, %x", x.Op, x.Num, x.Bits)] = x }
	for _, k := range []api.OpKind{0, 51, 52, 127, 128, 255, 256, 257, 306, -1, -49, 1<<32 + 1, least, least + 8, most} {
		add(op(k))
		add(opNum(k, 1))
	}
	for _, b := range []uint64{minusNaN, otherNaN, infinity + 1<<51 + 1, 1<<63 - 1, 1<<64 - 1, 0xFFF0000000000001} {
		add(opBits(api.OpPushReal, b))
	}
	for _, n := range []int64{least, least + 1, -1 << 32, -256, -1, 300, 301, 65535, 65536, 65537, 1 << 32, 1<<32 + 1, most} {
		for _, k := range []api.OpKind{api.OpTake, api.OpDrop, api.OpJump, api.OpUnless, api.OpMakeList, api.OpMakeTag} {
			add(opNum(k, n))
		}
	}
	for _, n := range []int64{40, 41, 255, 256, 257} {
		add(opNum(api.OpTake, n))
		add(opNum(api.OpDrop, n))
		add(opNum(api.OpMakeList, n+1))
		add(makeTag(n+1, 1))
	}
	for _, b := range []uint64{1 << 31, 1<<31 + 1, 1<<32 - 1, 1 << 32, 1<<32 + 1, 1 << 63, 1<<64 - 1} {
		add(makeTag(1, b))
	}
	for name, x := range wrongTerms() {
		l["the term "+name] = opTerm(api.OpPushTerm, x)
	}
	maps.Copy(l, moreInstrs())
	return l
}

// moreInstrs is right instructions, and one thing more that their Op does not have.
func moreInstrs() map[string]api.Instr {
	l := map[string]api.Instr{}
	for name, x := range rightInstrs() {
		hasNum := x.Op == api.OpPushInt || x.Op >= api.OpTake && x.Op <= api.OpUnless || x.Op == api.OpMakeList || x.Op == api.OpMakeTag
		for _, n := range []int64{1, -1, 256, 1 << 32, least} {
			if y := x; !hasNum {
				y.Num = n
				l[fmt.Sprintf("%s, and the Num %d", name, n)] = y
			}
		}
		for _, b := range []uint64{1, minusNought, api.NaN, 1 << 32} {
			if y := x; x.Op != api.OpPushReal && x.Op != api.OpMakeTag {
				y.Bits = b
				l[fmt.Sprintf("%s, and the Bits %x", name, b)] = y
			}
		}
		for _, z := range []api.Term{num(0), list(), nodes(api.Node{})} {
			if y := x; x.Op != api.OpPushTerm {
				y.Term = z
				l[fmt.Sprintf("%s, and the term %v", name, z)] = y
			}
		}
	}
	return l
}

// rights is right programs.
func rights() map[string]api.Program {
	l := map[string]api.Program{
		"300 instructions": prog(3, times(300, op(api.OpFail))...),
		"299 instructions": prog(0, times(299, opNum(api.OpTake, 39))...),
		"300 terms":        prog(1, times(300, opTerm(api.OpPushTerm, list(num(1), text("ab"))))...),
		"all Ops":          prog(2, allOps()...),
	}
	for args := range 4 {
		l[fmt.Sprintf("%d Args", args)] = prog(args, op(api.OpDone))
	}
	for name, x := range rightInstrs() {
		l[name] = prog(0, x)
		l[name+", amid others"] = prog(3, op(api.OpAdd), x, opNum(api.OpPushInt, 1), x)
	}
	return l
}

// allOps is an instruction of each Op.
func allOps() []api.Instr {
	var l []api.Instr
	for k := api.OpPushInt; k <= api.OpDone; k++ {
		switch k {
		case api.OpPushTerm:
			l = append(l, opTerm(k, list(num(5))))
		default:
			l = append(l, op(k))
		}
	}
	return l
}

// wrongs is programs that are not right.
func wrongs() map[string]api.Program {
	l := map[string]api.Program{
		"nothing": {}, "no instructions": prog(1), "an empty list of them": {Args: 1, Instrs: []api.Instr{}},
		"301 instructions": prog(0, times(301, op(api.OpFail))...),
		"as many as 2^16":  prog(0, times(1<<16, op(api.OpFail))...),
		"and one more":     prog(0, times(1<<16+1, op(api.OpFail))...),
		"a bad one last":   prog(0, append(times(299, op(api.OpFail)), op(0))...),
		"a bad one first":  prog(0, append([]api.Instr{op(51)}, times(299, op(api.OpFail))...)...),
	}
	for _, args := range []int{-1, 4, 5, 255, 256, 257, -256, 1 << 32, least, most} {
		l[fmt.Sprintf("%d Args", args)] = prog(args, op(api.OpDone))
	}
	for name, x := range wrongInstrs() {
		l[name] = prog(0, x)
		l[name+", first"] = prog(0, x, op(api.OpDone))
		l[name+", last"] = prog(0, op(api.OpDone), x)
	}
	return l
}

// raw is bytes in hexadecimal that no right program has.
func raw() map[string]string {
	head := "00 0001 "
	return map[string]string{
		"no bytes": "", "just Args": "00", "half a count": "00 00", "no instructions": "00 0000", "none, and more": "00 0000 31",
		"Args 4": "04 0001 31", "Args 255": "ff 0001 31",
		"an instruction too few": "00 0002 31", "301 instructions": "00 012d" + strings.Repeat("31", 301), "65535 instructions": "00 ffff" + strings.Repeat("31", 65535),
		"Op 0": head + "00", "Op 51": head + "33", "Op 255": head + "ff", "Op 0 amid others": "00 0003 31 00 31",
		"half an int": head + "01 00000000", "half a real": head + "02 00000000",
		"a NaN from elsewhere": head + "02 7ff0000000000001", "the NaN below 0": head + "02 fff8000000000000", "all bits": head + "02 ffffffffffffffff",
		"no term": head + "03", "a term without a kind": head + "03 00 0000000000000000", "kind 7": head + "03 07 0000", "a kid too few": head + "03 04 0001",
		"201 bytes": head + "03 02 00c9" + strings.Repeat("61", 201), "a term's NaN": head + "03 03 7ff0000000000001", "a term's tag 2^31": head + "03 05 80000000 0000",
		"a key alone": head + "03 06 0001 01 0000000000000000", "keys that do not rise": head + "03 06 0004" + strings.Repeat("01 0000000000000000", 4),
		"101 nodes": head + "03 04 0064" + strings.Repeat("04 0000", 100), "17 deep": head + "03" + strings.Repeat("04 0001", 16) + "04 0000",
		"OpTake 40": head + "04 28", "OpTake 255": head + "04 ff", "no Num of OpTake": head + "04", "OpDrop 40": head + "05 28", "OpDrop 128": head + "05 80",
		"OpJump 300": head + "06 012c", "OpJump 65535": head + "06 ffff", "half a Num of OpJump": head + "06 01", "OpUnless 300": head + "07 012c", "OpUnless 512": head + "07 0200",
		"OpMakeList 41": head + "27 29", "no Num of OpMakeList": head + "27", "OpMakeTag 41": head + "28 29 00000000", "no tag": head + "28 01", "half a tag": head + "28 01 0000",
		"a tag 2^31": head + "28 00 80000000", "a tag 2^32 - 1": head + "28 00 ffffffff",
	}
}

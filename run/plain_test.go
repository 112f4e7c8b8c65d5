package run_test

import (
	"bytes"
	"cmp"
	"crypto/sha256"
	"math"
	"math/big"
	"slices"

	"moidore/api"
)

// tree is a term as a tree.
type tree struct {
	node api.Node
	kids []tree
}

// grown is the tree of the first term of a row of nodes, and what stands behind it.
func grown(l []api.Node) (tree, []api.Node) {
	t, left := tree{node: l[0]}, l[1:]
	for range l[0].Kids {
		var k tree
		k, left = grown(left)
		t.kids = append(t.kids, k)
	}
	return t, left
}

func treeOf(t api.Term) tree {
	x, _ := grown(t.Nodes)
	return x
}

// sized is how many nodes a tree has, how many bytes, and how deep it is.
func (t tree) sized() (nodes, blobs, deep int) {
	nodes, blobs = 1, len(t.node.Bytes)
	for _, k := range t.kids {
		n, b, d := k.sized()
		nodes, blobs, deep = nodes+n, blobs+b, max(deep, d)
	}
	return nodes, blobs, deep + 1
}

// same says whether two trees have the same nodes, which they have just if their terms are the same, where these fit.
func (t tree) same(x tree) bool {
	return t.node == x.node && slices.EqualFunc(t.kids, x.kids, tree.same)
}

// plain is a run, told by the chapter's words step by step: an int is a big.Int, a real a float64, bytes are a []byte, a bool is a bool, a term a tree.
type plain struct {
	stack []any
	at    int
	took  int // what the things weigh that the instruction took
}

// failure is thrown where an instruction fails.
type failure struct{}

// fails throws, if one of them is so.
func fails(so ...bool) {
	if slices.Contains(so, true) {
		panic(failure{})
	}
}

func weighs(x any) int {
	switch x := x.(type) {
	case []byte:
		return len(x)
	case tree:
		n, b, _ := x.sized()
		return n + b
	}
	return 0
}

func pop[T any](s *plain) T {
	last := len(s.stack) - 1
	x := s.stack[last]
	s.stack = s.stack[:last]
	s.took += weighs(x)
	return x.(T)
}

func pop2[T any](s *plain) (T, T) {
	b := pop[T](s)
	return pop[T](s), b
}

// fit is n, which must be an int of 64 bits.
func fit(n *big.Int) any {
	fails(!n.IsInt64())
	return n
}

func small(n int) any { return big.NewInt(int64(n)) }

// do does an instruction: what it gives, nil if that is nothing, and how the run ends, if it does.
func (s *plain) do(i api.Instr) (gives any, end api.OutKind) {
	s.at++
	num := int(i.Num)
	switch k := i.Op; k {
	case api.OpPushInt:
		return big.NewInt(i.Num), 0
	case api.OpPushReal:
		return math.Float64frombits(i.Bits), 0
	case api.OpPushTerm:
		return treeOf(i.Term), 0
	case api.OpTake:
		x := s.stack[len(s.stack)-1-num]
		s.took += weighs(x)
		return x, 0
	case api.OpDrop:
		at := len(s.stack) - 1 - num
		s.stack = append(slices.Clone(s.stack[:at]), s.stack[at+1:]...)
	case api.OpJump:
		s.at = num
	case api.OpUnless:
		if !pop[bool](s) {
			s.at = num
		}
	case api.OpFail:
		fails(true)
	case api.OpDone:
		if pop[bool](s) {
			return nil, api.OutAccepts
		}
		return nil, api.OutRejects
	default:
		switch {
		case k <= api.OpIntSame:
			return s.ints(k), 0
		case k <= api.OpToInt:
			return s.reals(k), 0
		case k <= api.OpBytesSame:
			return s.blobs(k), 0
		case k <= api.OpOr:
			return s.bools(k), 0
		}
		return s.terms(i), 0
	}
	return nil, 0
}

func (s *plain) ints(k api.OpKind) any {
	if k == api.OpNeg {
		return fit(new(big.Int).Neg(pop[*big.Int](s)))
	}
	a, b := pop2[*big.Int](s)
	n := new(big.Int)
	switch k {
	case api.OpAdd:
		return fit(n.Add(a, b))
	case api.OpSub:
		return fit(n.Sub(a, b))
	case api.OpMul:
		return fit(n.Mul(a, b))
	case api.OpDiv:
		fails(b.Sign() == 0)
		return fit(n.Quo(a, b))
	case api.OpMod:
		fails(b.Sign() == 0)
		return fit(n.Rem(a, b))
	case api.OpIntLess:
		return a.Cmp(b) < 0
	}
	return a.Cmp(b) == 0
}

func (s *plain) reals(k api.OpKind) any {
	switch k {
	case api.OpToReal:
		x, _ := new(big.Float).SetInt(pop[*big.Int](s)).Float64()
		return x
	case api.OpToInt:
		x := pop[float64](s)
		fails(math.IsNaN(x), math.IsInf(x, 0))
		n, _ := big.NewFloat(x).Int(nil)
		return fit(n)
	case api.OpRealSqrt:
		return math.Sqrt(pop[float64](s))
	case api.OpRealNeg:
		return -pop[float64](s)
	}
	a, b := pop2[float64](s)
	switch k {
	case api.OpRealAdd:
		return a + b
	case api.OpRealSub:
		return a - b
	case api.OpRealMul:
		return a * b
	case api.OpRealDiv:
		return a / b
	case api.OpRealLess:
		return a < b
	case api.OpRealSame:
		return a == b
	}
	return small(cmp.Or(cmp.Compare(rank(a), rank(b)), ordered(a, b)))
}

// rank is 1 of NaN, which stands behind all.
func rank(a float64) int {
	if math.IsNaN(a) {
		return 1
	}
	return 0
}

// ordered is the order of two numbers.
func ordered(a, b float64) int {
	switch {
	case a < b || a == b && math.Signbit(a) && !math.Signbit(b):
		return -1
	case a > b || a == b && math.Signbit(b) && !math.Signbit(a):
		return 1
	}
	return 0
}

func (s *plain) blobs(k api.OpKind) any {
	switch k {
	case api.OpLong:
		return small(len(pop[[]byte](s)))
	case api.OpSum:
		h := sha256.Sum256(pop[[]byte](s))
		return h[:]
	case api.OpCut:
		from, many := pop2[*big.Int](s)
		a := pop[[]byte](s)
		end := new(big.Int).Add(from, many)
		fails(from.Sign() < 0, many.Sign() < 0, end.Cmp(big.NewInt(int64(len(a)))) > 0)
		return a[from.Int64():end.Int64()]
	}
	a, b := pop2[[]byte](s)
	switch k {
	case api.OpCat:
		fails(len(a)+len(b) > 200)
		return slices.Concat(a, b)
	case api.OpBytesLess:
		return bytes.Compare(a, b) < 0
	}
	return bytes.Equal(a, b)
}

func (s *plain) bools(k api.OpKind) any {
	if k == api.OpNot {
		return !pop[bool](s)
	}
	a, b := pop2[bool](s)
	if k == api.OpAnd {
		return a && b
	}
	return a || b
}

func (s *plain) terms(i api.Instr) any {
	switch i.Op {
	case api.OpMakeInt:
		return tree{node: api.Node{Kind: api.TermInt, Int: pop[*big.Int](s).Int64()}}
	case api.OpMakeBytes:
		return tree{node: api.Node{Kind: api.TermBytes, Bytes: string(pop[[]byte](s))}}
	case api.OpMakeReal:
		return tree{node: api.Node{Kind: api.TermReal, Bits: realBits(pop[float64](s))}}
	case api.OpMakeList:
		return s.above(api.Node{Kind: api.TermList, Kids: int(i.Num)})
	case api.OpMakeTag:
		return s.above(api.Node{Kind: api.TermTag, Int: int64(i.Bits), Kids: int(i.Num)})
	case api.OpTermSame:
		a, b := pop2[tree](s)
		return a.same(b)
	case api.OpKid:
		n := pop[*big.Int](s)
		t := pop[tree](s)
		fails(n.Sign() < 0, n.Cmp(big.NewInt(int64(len(t.kids)))) >= 0)
		return t.kids[n.Int64()]
	}
	return pop[tree](s).part(i.Op)
}

// realBits is the bits of a right real.
func realBits(a float64) uint64 {
	if math.IsNaN(a) {
		return api.NaN
	}
	return math.Float64bits(a)
}

// above is a node above the terms at the top. What these are of is right, but for how many nodes there are, and how deep they are.
func (s *plain) above(n api.Node) any {
	t := tree{node: n}
	for range n.Kids {
		t.kids = append([]tree{pop[tree](s)}, t.kids...)
	}
	nodes, _, deep := t.sized()
	fails(nodes > 100, deep > 16)
	return t
}

// part is what an Op asks of the first node.
func (t tree) part(k api.OpKind) any {
	n := t.node
	switch k {
	case api.OpAsInt:
		fails(n.Kind != api.TermInt)
		return big.NewInt(n.Int)
	case api.OpAsBytes:
		fails(n.Kind != api.TermBytes)
		return []byte(n.Bytes)
	case api.OpAsReal:
		fails(n.Kind != api.TermReal)
		return math.Float64frombits(n.Bits)
	case api.OpTagOf:
		fails(n.Kind != api.TermTag)
		return big.NewInt(n.Int)
	case api.OpCount:
		fails(n.Kind < api.TermList)
		return small(len(t.kids))
	}
	return small(int(n.Kind))
}

// step is an instruction that was done: its Op, what it costs, whether it gives something, and how it ends the run, if it does.
type step struct {
	k             api.OpKind
	steps, memory int64
	gives         bool
	end           api.OutKind
}

// next does the next instruction.
func (s *plain) next(i api.Instr) (x step) {
	s.took = 0
	defer func() {
		x.k, x.steps = i.Op, int64(s.took+1)
		if thrown := recover(); thrown == (failure{}) {
			x.end = api.OutFails
		} else if thrown != nil {
			panic(thrown)
		}
	}()
	gives, end := s.do(i)
	x.end = end
	if x.gives = gives != nil; x.gives {
		x.memory = int64(weighs(gives) + 1)
		s.stack = append(s.stack, gives)
	}
	return x
}

// trace is the instructions that p does, as long as steps and memory in all are within a budget, and the one that is beyond.
func trace(b api.Budget, p api.Program, args ...api.Term) []step {
	s := &plain{}
	for _, t := range args {
		s.stack = append(s.stack, treeOf(t))
	}
	var l []step
	var steps, memory int64
	for steps <= b.Steps && memory <= b.Memory {
		x := s.next(p.Instrs[s.at])
		l = append(l, x)
		if x.end != 0 {
			break
		}
		steps += x.steps
		memory += x.memory
	}
	return l
}

// endOf is how a run with such a trace ends in a budget that is no greater than the trace's.
func endOf(l []step, b api.Budget) api.Outcome {
	var o api.Outcome
	for _, x := range l {
		if o.Kind = api.OutSpent; o.Steps+x.steps > b.Steps {
			return o
		}
		o.Steps += x.steps
		if x.end != 0 {
			o.Kind = x.end
			return o
		}
		if x.gives && o.Memory+x.memory > b.Memory {
			return o
		}
		o.Memory += x.memory
	}
	panic("a trace that is too short")
}

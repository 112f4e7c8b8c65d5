package check

import (
	"math/rand"
	"slices"
	"strings"
	"testing"

	"moidore/api"
)

// maker makes a program that loads, step by step.
type maker struct {
	r    *rand.Rand
	l    []api.Instr
	s    string   // the stack that is there now
	seen []string // those that the instructions are reached with
}

// put puts instructions that fit.
func (m *maker) put(l ...api.Instr) {
	for _, i := range l {
		left, e := after(i, m.s)
		if e != api.OK {
			panic(e)
		}
		m.seen = append(m.seen, m.s)
		m.l = append(m.l, i)
		m.s = left
	}
}

// anyStep puts some instruction that fits and goes on, now and then several, with ways that part and meet.
func (m *maker) anyStep(deep int) {
	switch n := m.r.Intn(20); {
	case n == 0 && deep > 0 && len(m.l) < 200:
		m.fork(deep)
	case n == 1 && deep > 0 && len(m.l) < 200:
		m.round(deep)
	default:
		m.step()
	}
}

// step puts some instruction that fits and goes on at the next one alone, now and then with what it takes ahead of it.
func (m *maker) step() {
	for {
		k := api.OpKind(1 + m.r.Intn(50))
		num := int64(m.r.Intn(5))
		if m.r.Intn(3) == 0 {
			num = int64(m.r.Intn(40))
		}
		takes, _, _ := strings.Cut(line(k), ">")
		if i := anOp(k, num); straight(k) {
			if len(m.s) < 30 && m.r.Intn(2) == 0 {
				m.put(push(takes)...)
			}
			if _, e := after(i, m.s); e == api.OK {
				m.put(i)
				return
			}
		}
	}
}

// become leaves s instead of what is there.
func (m *maker) become(s string) {
	for len(m.s) > 0 {
		m.put(dropAt(m.r.Intn(len(m.s))))
	}
	m.put(push(s)...)
}

// bool puts a bool above what is there, if there is room for what that takes.
func (m *maker) bool() bool {
	if len(m.s) > 38 {
		return false
	}
	m.put(push("f")...)
	return true
}

// goTo sets where the jump at a place leads: to where the next instruction will stand.
func (m *maker) goTo(at int) { m.l[at].Num = int64(len(m.l)) }

// fork puts an OpUnless, and two ways that meet behind, or one of which ends.
func (m *maker) fork(deep int) {
	if !m.bool() {
		return
	}
	at := len(m.l)
	m.put(unless(0))
	s := m.s
	for range m.r.Intn(4) {
		m.anyStep(deep - 1)
	}
	if m.r.Intn(3) == 0 {
		m.end()
		m.goTo(at)
		m.s = s
		return
	}
	end, meets := len(m.l), m.s
	m.put(jump(0))
	m.goTo(at)
	m.s = s
	for range m.r.Intn(4) {
		m.anyStep(deep - 1)
	}
	if m.s != meets && !fits(meets) {
		m.put(fail())
		m.s = meets
	} else if m.s != meets {
		m.become(meets)
	}
	m.goTo(end)
}

// fits says whether a stack may be pushed without going above MaxStack.
func fits(s string) bool { return len(s) <= 38 }

// round puts instructions that are gone through again and again.
func (m *maker) round(deep int) {
	if !fits(m.s) {
		return
	}
	head, s := len(m.l), m.s
	m.bool()
	at := len(m.l)
	m.put(unless(0))
	for range m.r.Intn(4) {
		m.anyStep(deep - 1)
	}
	if m.s != s {
		m.become(s)
	}
	m.put(jump(head))
	m.goTo(at)
	m.s = s
}

// end puts an instruction behind which it does not go on to the next one.
func (m *maker) end() {
	switch m.r.Intn(3) {
	case 0:
		m.put(fail())
	case 1:
		if m.s != "f" {
			m.become("f")
		}
		m.put(op(api.OpDone))
	default:
		at := slices.Index(m.seen, m.s)
		if at < 0 {
			at = len(m.l)
		}
		m.put(jump(at))
	}
}

// anyLoading is some program that loads.
func anyLoading(r *rand.Rand) api.Program {
	for {
		m := &maker{r: r}
		args := r.Intn(4)
		m.s = "ttt"[:args]
		if r.Intn(4) == 0 {
			m.put(push("irbft"[:r.Intn(6)])...)
		}
		n := []int{r.Intn(3), r.Intn(10), r.Intn(30), r.Intn(100)}[r.Intn(4)]
		for range n {
			m.anyStep(3)
		}
		m.end()
		if len(m.l) <= api.MaxInstrs {
			return prog(args, m.l...)
		}
	}
}

// bent is a program near p: an instruction is another one, goes, is new, or changes its place; or there are other arguments.
func bent(r *rand.Rand, p api.Program) api.Program {
	l := slices.Clone(p.Instrs)
	at := r.Intn(len(l))
	one := anOp(api.OpKind(1+r.Intn(50)), int64(r.Intn(len(l)+1))%40)
	switch r.Intn(7) {
	case 0:
		l[at] = one
	case 1:
		l = slices.Delete(l, at, at+1)
	case 2:
		l = slices.Insert(l, at, one)
	case 3:
		to := r.Intn(len(l))
		l[at], l[to] = l[to], l[at]
	case 4:
		return prog(r.Intn(4), l...)
	case 5:
		l[at] = []api.Instr{jump(r.Intn(len(l) + 1)), unless(r.Intn(len(l) + 1))}[r.Intn(2)]
	default:
		// Where it has a Num, another one.
		for i := range l {
			if k := l[(at+i)%len(l)].Op; k >= api.OpTake && k <= api.OpUnless || k == api.OpMakeList || k == api.OpMakeTag {
				l[(at+i)%len(l)].Num = int64(r.Intn(min(len(l)+2, 40)))
				break
			}
		}
	}
	return prog(p.Args, l...)
}

// P9.1, P9.2: programs that load, and such as are near them: what the chapter's words say.
func TestAny(t *testing.T) {
	r := rand.New(rand.NewSource(901))
	told := map[api.Errno]int{}
	for range 800 {
		p := anyLoading(r)
		if e := wantJudged(t, "one that is made to load", p).e; e != api.OK {
			t.Fatalf("made not to load: %d", e)
		}
		for range 4 {
			for range 1 + r.Intn(2) {
				if len(p.Instrs) > 1 {
					p = bent(r, p)
				}
			}
			told[wantJudged(t, "one that is near", p).e]++
		}
	}
	for _, e := range []api.Errno{api.OK, api.ErrStack, api.ErrType, api.ErrJump} {
		if told[e] < 300 {
			t.Errorf("%d was told just %d times", e, told[e])
		}
	}
}

// P9.1, P9.2: all programs of up to four instructions, out of some that let it jump about: what the chapter's words say.
func TestAllShort(t *testing.T) {
	told := map[api.Errno]int{}
	for n := 1; n <= 4; n++ {
		some := []api.Instr{pushInt(0), op(api.OpIntSame), dropAt(0), takeAt(0), fail(), op(api.OpDone)}
		for to := range n + 1 {
			some = append(some, jump(to), unless(to))
		}
		all := 1
		for range n {
			all *= len(some)
		}
		for x := range all {
			l := make([]api.Instr, n)
			for i := range l {
				l[i] = some[x%len(some)]
				x /= len(some)
			}
			for args := range 2 {
				told[wantJudged(t, "a short one", prog(args, l...)).e]++
			}
		}
	}
	for _, e := range []api.Errno{api.OK, api.ErrStack, api.ErrType, api.ErrJump} {
		if told[e] < 300 {
			t.Errorf("%d was told just %d times", e, told[e])
		}
	}
}

// P9.3: of programs that load, the stack that each instruction leaves is the one that each place is reached with where it goes on; what it takes is there, of these types; the highest one is what Load tells.
func TestFollows(t *testing.T) {
	r := rand.New(rand.NewSource(903))
	ops := map[api.OpKind]int{}
	for range 300 {
		p := anyLoading(r)
		most, _, e := Load(p)
		if e != api.OK {
			t.Fatalf("%d: %s", e, told(p))
		}
		stacks, highest := make([]string, len(p.Instrs)), 0
		for at := range p.Instrs {
			l, is := Stack(p, at)
			if !is {
				t.Fatalf("no stack at %d: %s", at, told(p))
			}
			stacks[at] = text(l)
			highest = max(highest, len(l))
		}
		if highest != most || most > api.MaxStack || stacks[0] != "ttt"[:p.Args] {
			t.Errorf("%d, not %d; %q first: %s", most, highest, stacks[0], told(p))
		}
		for at, i := range p.Instrs {
			ops[i.Op]++
			left, e := after(i, stacks[at])
			if e != api.OK {
				t.Errorf("%d at %d of what loads: %s", e, at, told(p))
			}
			for _, to := range goesOn(i, at) {
				if to >= len(stacks) || stacks[to] != left {
					t.Errorf("from %d to %d with %q: %s", at, to, left, told(p))
				}
			}
		}
	}
	for k := api.OpPushInt; k <= api.OpDone; k++ {
		if ops[k] < 20 {
			t.Errorf("the Op %d was there just %d times", k, ops[k])
		}
	}
}

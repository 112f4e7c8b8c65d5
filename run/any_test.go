package run_test

import (
	"math/rand"
	"strings"
	"testing"

	"moidore/api"
	"moidore/run"
)

// line is what an Op takes, and behind > what it gives: i an int, r a real, b bytes, f a bool, t a term; of the Ops whose Num plays a part, and of the ends, it says nothing.
func line(k api.OpKind) string {
	l := strings.Fields(">i >r >t . . . . ii>i ii>i ii>i ii>i ii>i i>i ii>f ii>f rr>r rr>r rr>r rr>r r>r r>r rr>f rr>f rr>i i>r r>i bb>b bii>b b>i b>b bb>f bb>f f>f ff>f ff>f i>t b>t r>t . . t>i t>b t>r t>i t>i t>i ti>t tt>f . .")
	return l[k-1]
}

// maker makes a program that loads, step by step.
type maker struct {
	r     *rand.Rand
	l     []api.Instr
	s     string // the types that are there now
	floor int    // below this they are to stay
}

// put puts instructions that take and give such types.
func (m *maker) put(line string, l ...api.Instr) {
	takes, gives, _ := strings.Cut(line, ">")
	m.s = strings.TrimSuffix(m.s, takes) + gives
	m.l = append(m.l, l...)
}

func (m *maker) anInt() int64 {
	if m.r.Intn(12) == 0 {
		l := edgeInts()
		return l[m.r.Intn(len(l))]
	}
	return int64(m.r.Intn(7) - 1)
}

func (m *maker) aReal() uint64 {
	if m.r.Intn(4) == 0 {
		l := edgeReals()
		return l[m.r.Intn(len(l))]
	}
	return real(float64(m.r.Intn(9)) / 2)
}

// aTerm is some right term, not too great.
func (m *maker) aTerm(deep int) api.Term {
	n := m.r.Intn(4)
	if deep == 0 {
		n = 0
	}
	var kids []api.Term
	for range n {
		kids = append(kids, m.aTerm(deep-1))
	}
	switch m.r.Intn(7) {
	case 0:
		return intTerm(m.anInt())
	case 1:
		return blobTerm(row(m.r.Intn(200), m.r.Intn(6)))
	case 2:
		return realTerm(m.aReal())
	case 3:
		return tag(int64(m.r.Intn(9)), kids...)
	case 4:
		return dict(intTerm(1), list(kids...), intTerm(2), intTerm(m.anInt()))
	}
	return list(kids...)
}

// push puts new things of such types.
func (m *maker) push(types string) {
	for _, x := range types {
		switch x {
		case 'i':
			m.put(">i", pushInt(m.anInt()))
		case 'r':
			m.put(">r", pushReal(m.aReal()))
		case 'b':
			m.put(">b", puts(row(m.r.Intn(200), m.r.Intn(9))).l...)
		case 'f':
			m.put(">f", puts(m.r.Intn(2) == 0).l...)
		case 't':
			m.put(">t", pushTerm(m.aTerm(2)))
		}
	}
}

// suit puts things with which an Op does not fail, and says whether it knows such.
func (m *maker) suit(k api.OpKind) bool {
	n := int64(m.r.Intn(4))
	switch k {
	case api.OpDiv, api.OpMod:
		m.push("i")
		m.put(">i", pushInt(n+1))
	case api.OpToInt:
		m.put(">r", pushReal(real(float64(n)+0.5)))
	case api.OpCut:
		m.put(">b", puts(row(7, 9)).l...)
		m.put(">ii", pushInt(n), pushInt(n+2))
	case api.OpAsInt:
		m.put(">t", pushTerm(intTerm(m.anInt())))
	case api.OpAsBytes:
		m.put(">t", pushTerm(blobTerm(row(int(n), int(n)))))
	case api.OpAsReal:
		m.put(">t", pushTerm(realTerm(m.aReal())))
	case api.OpTagOf:
		m.put(">t", pushTerm(tag(n, m.aTerm(2))))
	case api.OpCount:
		m.put(">t", pushTerm(list(m.aTerm(1), m.aTerm(2))))
	case api.OpKid:
		m.put(">t", pushTerm(list(m.aTerm(1), m.aTerm(1), m.aTerm(1), m.aTerm(1))))
		m.put(">i", pushInt(n))
	default:
		return false
	}
	return true
}

// room is how many things above the floor there are.
func (m *maker) room() int { return len(m.s) - m.floor }

// step puts some instruction that goes on at the next one, now and then with what it takes ahead of it.
func (m *maker) step() {
	k := api.OpKind(1 + m.r.Intn(48))
	switch k {
	case api.OpTake:
		if len(m.s) > 0 {
			n := m.r.Intn(len(m.s))
			at := len(m.s) - 1 - n
			m.put(">"+m.s[at:at+1], takeAt(n))
		}
		return
	case api.OpDrop:
		if m.room() > 0 {
			n := m.r.Intn(m.room())
			at := len(m.s) - 1 - n
			m.s = m.s[:at] + m.s[at+1:]
			m.l = append(m.l, dropAt(n))
		}
		return
	case api.OpMakeList, api.OpMakeTag:
		n := m.r.Intn(4)
		m.push("ttt"[:n])
		i := makeList(n)
		if k == api.OpMakeTag {
			i = makeTag(uint64(m.r.Intn(9)), n)
		}
		m.put("ttt"[:n]+">t", i)
		return
	case api.OpPushInt, api.OpPushReal, api.OpPushTerm, api.OpJump, api.OpUnless:
		m.push("irbft"[k%5 : k%5+1])
		return
	}
	takes, _, _ := strings.Cut(line(k), ">")
	known := m.r.Intn(8) > 0 && m.suit(k)
	if !known && (m.r.Intn(2) == 0 || m.room() < len(takes) || !strings.HasSuffix(m.s, takes)) {
		m.push(takes)
	}
	m.put(line(k), op(k))
}

// drop lets all above the floor go.
func (m *maker) drop() {
	for m.room() > 0 {
		n := m.r.Intn(m.room())
		at := len(m.s) - 1 - n
		m.s = m.s[:at] + m.s[at+1:]
		m.l = append(m.l, dropAt(n))
	}
}

// within puts some instructions that leave things as they were.
func (m *maker) within(deep int) {
	floor := m.floor
	m.floor = len(m.s)
	m.some(1+m.r.Intn(3), deep-1)
	m.drop()
	m.floor = floor
}

// goTo lets the jump at a place lead to where the next instruction will stand.
func (m *maker) goTo(at int) { m.l[at].Num = int64(len(m.l)) }

// fork puts two ways that meet.
func (m *maker) fork(deep int) {
	m.push("f")
	at := len(m.l)
	m.put("f>", unless(0))
	m.within(deep)
	end := len(m.l)
	m.put(">", jump(0))
	m.goTo(at)
	m.within(deep)
	m.goTo(end)
}

// round puts instructions that are gone through some times, now and then without an end.
func (m *maker) round(deep int) {
	m.put(">i", pushInt(int64(1+m.r.Intn(4))))
	head := len(m.l)
	m.within(deep)
	if m.r.Intn(40) > 0 {
		m.put("", pushInt(1), op(api.OpSub))
	}
	m.put("", takeAt(0), pushInt(0), op(api.OpIntSame), unless(head))
}

// some puts so many steps, now and then ways that part and meet.
func (m *maker) some(n, deep int) {
	for range n {
		switch x := m.r.Intn(16); {
		case len(m.s) > 20:
			m.drop()
		case x == 0 && deep > 0:
			m.fork(deep)
		case x == 1 && deep > 0:
			m.round(deep)
		default:
			m.step()
		}
	}
}

// end ends the program, by a bool that is asked of what is on top.
func (m *maker) end() {
	if m.r.Intn(20) == 0 {
		m.put("", op(api.OpFail))
		return
	}
	switch {
	case strings.HasSuffix(m.s, "i"):
		m.push("i")
		m.put("ii>f", op(api.OpIntLess+api.OpKind(m.r.Intn(2))))
	case strings.HasSuffix(m.s, "r"):
		m.push("r")
		m.put("rr>f", op(api.OpRealLess+api.OpKind(m.r.Intn(2))))
	case strings.HasSuffix(m.s, "b"):
		m.push("b")
		m.put("bb>f", op(api.OpBytesLess+api.OpKind(m.r.Intn(2))))
	case strings.HasSuffix(m.s, "t"):
		m.push("t")
		m.put("tt>f", op(api.OpTermSame))
	case m.s == "":
		m.push("f")
	}
	for len(m.s) > 1 {
		m.put("f>", dropAt(1))
		m.s = m.s[:len(m.s)-1] + "f"
	}
	m.put("f>", op(api.OpDone))
}

// anyCall is some program that loads, and arguments that fit.
func anyCall(r *rand.Rand) call {
	for {
		m := &maker{r: r}
		var c call
		for range r.Intn(4) {
			c.args = append(c.args, m.aTerm(4))
		}
		m.s = "ttt"[:len(c.args)]
		m.some([]int{1, 3, 10, 25}[r.Intn(4)], 2)
		m.end()
		if len(m.l) <= api.MaxInstrs {
			c.p = prog(len(c.args), m.l...)
			return c
		}
	}
}

// P10.1: programs of all sorts that load: what the chapter's words say, in great budgets and in such as spend them.
func TestAny(t *testing.T) {
	r := rand.New(rand.NewSource(1001))
	ends, ops := map[api.OutKind]int{}, map[api.OpKind]int{}
	for n := range 2500 {
		c := anyCall(r)
		b := api.Budget{Steps: 1 << 12, Memory: 1 << 12}
		if n%50 == 0 {
			b = all
		}
		l := trace(b, c.p, c.args...)
		used := wantTraced(t, "some program", c, l, b)
		ends[used.Kind]++
		for range 6 {
			wantTraced(t, "some program", c, l, api.Budget{Steps: min(r.Int63n(used.Steps+2), b.Steps), Memory: min(r.Int63n(used.Memory+2), b.Memory)})
		}
		for _, x := range l[:min(len(l), 400)] {
			if x.end != api.OutFails {
				ops[x.k]++
			}
		}
	}
	for k := api.OutAccepts; k <= api.OutSpent; k++ {
		if ends[k] < 30 {
			t.Errorf("just %d ended %d", ends[k], k)
		}
	}
	for k := api.OpPushInt; k < api.OpDone; k++ {
		if k != api.OpFail && ops[k] < 100 {
			t.Errorf("the Op %d was done just %d times", k, ops[k])
		}
	}
}

// P10.1: some programs in each budget of steps, and in each of memory, from none to one more than is used.
func TestAnySpent(t *testing.T) {
	r := rand.New(rand.NewSource(1002))
	for n := 0; n < 60; {
		c := anyCall(r)
		b := api.Budget{Steps: 400, Memory: 400}
		l := trace(b, c.p, c.args...)
		used := endOf(l, b)
		if used.Kind == api.OutSpent || used.Steps < 20 {
			continue
		}
		n++
		for s := range used.Steps + 2 {
			wantTraced(t, "some program", c, l, api.Budget{Steps: s, Memory: api.MaxBudget})
		}
		for m := range used.Memory + 2 {
			wantTraced(t, "some program", c, l, api.Budget{Steps: api.MaxBudget, Memory: m})
		}
	}
}

// wantLess wants that a run is spent in a budget, and within it.
func wantLess(t *testing.T, c call, b api.Budget) {
	t.Helper()
	if o := run.Run(c.p, b, c.args...); o.Kind != api.OutSpent || o.Steps > b.Steps || o.Memory > b.Memory || o.Steps < 0 || o.Memory < 0 {
		t.Errorf("in %v: %v: %s", b, o, told(c.p))
	}
}

// P10.3: of programs that are not spent: with a greater budget the same; with just what they used, too; with less of either they are spent, within it.
func TestFollows(t *testing.T) {
	r := rand.New(rand.NewSource(1003))
	l := []call{{countdown(9), nil}, {below5(), []api.Term{intTerm(4)}}, {below5(), []api.Term{intTerm(9)}}, {below5(), []api.Term{list()}}, {countdown(20000), nil}}
	for range 1500 {
		l = append(l, anyCall(r))
	}
	ends := map[api.OutKind]int{}
	for _, c := range l {
		b := api.Budget{Steps: 1 << r.Intn(21), Memory: 1 << r.Intn(21)}
		o := run.Run(c.p, b, c.args...)
		ends[o.Kind]++
		if o.Kind < api.OutAccepts || o.Kind > api.OutSpent || o.Steps > b.Steps || o.Memory > b.Memory || o.Steps < 0 || o.Memory < 0 {
			t.Errorf("in %v: %v: %s", b, o, told(c.p))
		}
		if o.Kind == api.OutSpent {
			continue
		}
		s, m := o.Steps, o.Memory
		for _, more := range []api.Budget{all, {Steps: s, Memory: m}, {Steps: s + 1, Memory: m}, {Steps: s, Memory: m + 1}, {Steps: s, Memory: api.MaxBudget}, {Steps: api.MaxBudget, Memory: m}} {
			wantRun(t, "in what it used, or more", c.p, more, o, c.args...)
		}
		for range 3 {
			wantLess(t, c, api.Budget{Steps: r.Int63n(s), Memory: m})
			wantLess(t, c, api.Budget{Steps: r.Int63n(s), Memory: api.MaxBudget})
			if m > 0 {
				wantLess(t, c, api.Budget{Steps: s, Memory: r.Int63n(m)})
				wantLess(t, c, api.Budget{Steps: api.MaxBudget, Memory: r.Int63n(m)})
				wantLess(t, c, api.Budget{Steps: r.Int63n(s), Memory: r.Int63n(m)})
			}
		}
		wantLess(t, c, api.Budget{Steps: s - 1, Memory: m})
		if m > 0 {
			wantLess(t, c, api.Budget{Steps: s, Memory: m - 1})
		}
	}
	for k := api.OutAccepts; k <= api.OutSpent; k++ {
		if ends[k] < 100 {
			t.Errorf("just %d ended %d", ends[k], k)
		}
	}
}

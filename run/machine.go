package run

import "moidore/api"

// machine is a run, as far as it has come. On its stack an int is an int64, a real its bits as a uint64, bytes are a string, a bool is a bool, and a term an api.Term.
type machine struct {
	instrs []api.Instr
	budget api.Budget
	stack  []any
	at     int         // of the instruction that is next
	out    api.Outcome // what was counted; of no kind, as long as it runs
}

// run does instructions, until one ends it, fails, or is spent.
func (m *machine) run() {
	defer func() {
		if end, is := recover().(api.OutKind); is {
			m.out.Kind = end
		}
	}()
	t := deeds()
	for m.out.Kind == 0 {
		i := m.instrs[m.at]
		m.at++
		t[i.Op](m, i)
	}
}

// must throws that the run fails, unless all that it is given is so.
func must(so ...bool) {
	for _, is := range so {
		if !is {
			panic(api.OutFails)
		}
	}
}

// place is where the thing stands that has n above it.
func (m *machine) place(n int64) int { return len(m.stack) - 1 - int(n) }

// take takes the n things at the top, the lowest one first.
func (m *machine) take(n int) []any {
	from := len(m.stack) - n
	l := m.stack[from:]
	m.step(l...)
	m.stack = m.stack[:from]
	return l
}

// give puts a thing on top.
func (m *machine) give(x any) {
	m.out.Memory = counted(m.out.Memory, m.budget.Memory, x)
	m.stack = append(m.stack, x)
}

// step counts the steps of an instruction that takes the things of l.
func (m *machine) step(l ...any) {
	m.out.Steps = counted(m.out.Steps, m.budget.Steps, l...)
}

// counted is what there is in all, with what the things of l weigh, and 1 more. If that is too much it is thrown that the run is spent: so the caller has counted nothing of it.
func counted(all, most int64, l ...any) int64 {
	all++
	for _, x := range l {
		all += weight(x)
	}
	if all > most {
		panic(api.OutSpent)
	}
	return all
}

func weight(x any) int64 {
	switch x := x.(type) {
	case string:
		return int64(len(x))
	case api.Term:
		return Weight(x)
	}
	return 0
}

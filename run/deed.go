package run

import (
	"maps"
	"slices"

	"moidore/api"
)

// deed is what an Op does: it takes, which counts its steps, then it may fail, then it gives, which counts its memory.
type deed func(*machine, api.Instr)

// table is what Ops do.
type table map[api.OpKind]deed

func deeds() table {
	all := table{}
	for _, t := range []table{moves(), ints(), reals(), blobs(), bools(), terms()} {
		maps.Copy(all, t)
	}
	return all
}

// push puts a thing that the instruction has.
func push[T any](of func(api.Instr) T) deed {
	return func(m *machine, i api.Instr) {
		m.step()
		m.give(of(i))
	}
}

// one gives what one thing becomes.
func one[A, B any](become func(A) B) deed {
	return func(m *machine, _ api.Instr) {
		l := m.take(1)
		m.give(become(l[0].(A)))
	}
}

// two gives what two things become, the lower one first.
func two[A, B, C any](become func(A, B) C) deed {
	return func(m *machine, _ api.Instr) {
		l := m.take(2)
		m.give(become(l[0].(A), l[1].(B)))
	}
}

// three gives what three things become, the lowest one first.
func three[A, B, C, D any](become func(A, B, C) D) deed {
	return func(m *machine, _ api.Instr) {
		l := m.take(3)
		m.give(become(l[0].(A), l[1].(B), l[2].(C)))
	}
}

// moves is the Ops that leave things as they are.
func moves() table {
	return table{
		api.OpPushInt:  push(func(i api.Instr) int64 { return i.Num }),
		api.OpPushReal: push(func(i api.Instr) uint64 { return i.Bits }),
		api.OpPushTerm: push(func(i api.Instr) api.Term { return i.Term }),
		api.OpTake: func(m *machine, i api.Instr) {
			x := m.stack[m.place(i.Num)]
			m.step(x)
			m.give(x)
		},
		api.OpDrop: func(m *machine, i api.Instr) {
			m.step()
			at := m.place(i.Num)
			m.stack = slices.Delete(m.stack, at, at+1)
		},
		api.OpJump: func(m *machine, i api.Instr) {
			m.step()
			m.at = int(i.Num)
		},
		api.OpUnless: func(m *machine, i api.Instr) {
			if !m.takeBool() {
				m.at = int(i.Num)
			}
		},
		api.OpFail: func(m *machine, _ api.Instr) {
			m.step()
			must(false)
		},
		api.OpDone: func(m *machine, _ api.Instr) {
			if m.takeBool() {
				m.out.Kind = api.OutAccepts
			} else {
				m.out.Kind = api.OutRejects
			}
		},
	}
}

func (m *machine) takeBool() bool { return m.take(1)[0].(bool) }

func bools() table {
	return table{
		api.OpNot: one(func(a bool) bool { return !a }),
		api.OpAnd: two(func(a, b bool) bool { return a && b }),
		api.OpOr:  two(func(a, b bool) bool { return a || b }),
	}
}

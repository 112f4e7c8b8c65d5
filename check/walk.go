package check

import (
	"slices"

	"moidore/api"
	"moidore/code"
)

// mark is how far an instruction has come.
type mark int

const (
	unreached mark = iota
	reached
	done
)

// walk is the check of a program, as far as it has gone: how far each instruction has come, and the stack that it is reached with.
type walk struct {
	instrs []api.Instr
	table  table
	marks  []mark
	stacks []stack
	at     int // of the instruction that is done
}

// walked is the check of p to its end, or as far as it went when something was thrown that does not fit.
func walked(p api.Program) (w walk, e api.Errno) {
	defer func() {
		if thrown, is := recover().(api.Errno); is {
			e = thrown
		}
	}()
	must(code.Right(p), api.ErrShape)
	n := len(p.Instrs)
	w = walk{instrs: p.Instrs, table: effects(), marks: make([]mark, n), stacks: make([]stack, n)}
	w.reach(slices.Repeat(stack{api.TypeTerm}, p.Args), 0)
	for w.goTo(reached) {
		w.do()
	}
	must(!w.goTo(unreached), api.ErrJump)
	return w, api.OK
}

// goTo goes to the first instruction that has come just so far, and says whether there is one.
func (w *walk) goTo(m mark) bool {
	at := slices.Index(w.marks, m)
	if at < 0 {
		return false
	}
	w.at = at
	return true
}

// do does the instruction where the walk stands.
func (w *walk) do() {
	i := w.instrs[w.at]
	left := w.table.left(i, w.stacks[w.at])
	w.marks[w.at] = done
	w.reach(left, onward(i, w.at)...)
}

// reach lets the instructions at some places be reached with s, one by one. Those that were reached already must have been so with it.
func (w *walk) reach(s stack, places ...int) {
	for _, at := range places {
		must(at < len(w.instrs), api.ErrJump)
		if w.marks[at] == unreached {
			w.marks[at], w.stacks[at] = reached, s
		}
		must(slices.Equal(w.stacks[at], s), api.ErrJump)
	}
}

// onward is where it goes on behind i, which stands at a place.
func onward(i api.Instr, at int) []int {
	switch i.Op {
	case api.OpJump:
		return []int{int(i.Num)}
	case api.OpUnless:
		return []int{at + 1, int(i.Num)}
	case api.OpFail, api.OpDone:
		return nil
	}
	return []int{at + 1}
}

package check

import (
	"slices"

	"moidore/api"
)

// stack is types, the top last. One that is there is never changed: several places may be reached with it.
type stack []api.TypeKind

// must throws e, unless it is so.
func must(so bool, e api.Errno) {
	if !so {
		panic(e)
	}
}

// top is the n types at the end of s.
func (s stack) top(n int) stack {
	must(len(s) >= n, api.ErrStack)
	return s[len(s)-n:]
}

// less is s without the types of l, which must stand at its end.
func (s stack) less(l ...api.TypeKind) stack {
	must(slices.Equal(s.top(len(l)), l), api.ErrType)
	return s[:len(s)-len(l)]
}

// plus is s with the types of l behind it, in new memory.
func (s stack) plus(l ...api.TypeKind) stack {
	must(len(s)+len(l) <= api.MaxStack, api.ErrStack)
	return slices.Concat(s, l)
}

package shape

import (
	"slices"
	"strings"

	"portolan/api"
	"portolan/code"
)

// scope is what a function's instructions may name: its closures say whether a variable is there, a block to lead to, a function that takes so many arguments.
type scope struct {
	variable, block func(n int) bool
	callee          func(n, args int) bool
}

// scopeOf makes the scope of p's function n, which is there. The first block is none to lead to.
func scopeOf(p api.Prog, n int) scope {
	f := p.Funcs[n]
	return scope{
		variable: func(v int) bool { return within(v, 0, len(f.Kinds)-1) },
		block:    func(b int) bool { return within(b, 1, len(f.Blocks)-1) },
		callee: func(g, args int) bool {
			return within(g, 0, len(p.Funcs)-1) && p.Funcs[g].Params == args
		},
	}
}

// all tells whether all instructions of blocks may be.
func (s scope) all(l []api.Block) bool {
	for _, b := range l {
		for _, x := range b.Code {
			if !s.may(x) {
				return false
			}
		}
	}
	return true
}

// may tells whether an instruction may be.
func (s scope) may(x api.Ins) bool {
	return code.Parts(x.Op) != "" && onlyParts(x) && s.variables(x) && s.numbers(x)
}

// variables tells whether all variables that x names are there.
func (s scope) variables(x api.Ins) bool {
	if d, ok := Sets(x); ok && !s.variable(d) {
		return false
	}
	missing := func(v int) bool { return !s.variable(v) }
	return !slices.ContainsFunc(Uses(x), missing)
}

// numbers tells whether N and M may be, as what the operation takes them for.
func (s scope) numbers(x api.Ins) bool {
	switch x.Op {
	case api.OpConst:
		return within(x.N, -api.MaxConst, api.MaxConst)
	case api.OpShift:
		return within(x.N, -api.MaxFields, api.MaxFields)
	case api.OpAlloc:
		return within(x.N, 0, api.MaxFields) && within(x.M, 0, api.MaxFields)
	case api.OpLoadInt, api.OpStoreInt, api.OpLoadRef, api.OpStoreRef, api.OpDerive:
		return within(x.N, 0, api.MaxFields-1)
	case api.OpCall:
		return s.callee(x.N, len(x.Args))
	case api.OpJump:
		return s.block(x.N)
	case api.OpBranch:
		return s.block(x.N) && s.block(x.M)
	}
	return true
}

// onlyParts tells whether nothing is in fields of x that are no parts.
func onlyParts(x api.Ins) bool {
	for _, field := range []struct {
		letters string
		filled  bool
	}{
		{"D", x.D != 0}, {"A", x.A != 0}, {"B", x.B != 0},
		{"Nn", x.N != 0}, {"M", x.M != 0}, {"L", len(x.Args) > 0},
	} {
		if field.filled && !has(x.Op, field.letters) {
			return false
		}
	}
	return true
}

// has tells whether one of the letters is a part of the operation.
func has(op int, letters string) bool {
	return strings.ContainsAny(code.Parts(op), letters)
}

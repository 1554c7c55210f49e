package code

import (
	"portolan/api"
	"portolan/varint"
)

// reader goes through bytes from left to right. Behind its first error it reads no more: every number is 0 then, so that no further count leads on.
type reader struct {
	b   []byte
	e   api.Errno
	may limits
}

// take is the next number, as get reads it.
func (r *reader) take(get func(b []byte) (n, size int, e api.Errno)) int {
	if r.e != api.OK {
		return 0
	}
	n, size, e := get(r.b)
	r.b, r.e = r.b[size:], e
	return n
}

// number is the next number.
func (r *reader) number() int {
	return r.take(varint.Get)
}

// only is the next number; e is the error, if may says that it may not be.
func (r *reader) only(may func(n int) bool, e api.Errno) int {
	n := r.number()
	if r.e != api.OK {
		return 0
	}
	if !may(n) {
		r.e = e
		return 0
	}
	return n
}

// count is the next number, as a count.
func (r *reader) count(may func(n int) bool) int {
	return r.only(may, api.ErrLimit)
}

// prog reads a program.
func (r *reader) prog() api.Prog {
	p := api.Prog{Funcs: make([]api.Func, r.count(r.may.funcs))}
	for i := range p.Funcs {
		p.Funcs[i] = r.function()
	}
	return p
}

// function reads a function.
func (r *reader) function() api.Func {
	vars := r.count(r.may.vars)
	f := api.Func{Kinds: make([]int, vars), Base: make([]int, vars)}
	for i := range vars {
		f.Kinds[i], f.Base[i] = r.variable()
	}
	f.Params = r.number()
	f.Result = r.number()
	f.Blocks = make([]api.Block, r.count(r.may.blocks))
	for i := range f.Blocks {
		f.Blocks[i] = r.block()
	}
	return f
}

// variable reads a variable's kind and base.
func (r *reader) variable() (kind, base int) {
	kind = r.only(isKind, api.ErrForm)
	if kind == api.Der {
		return kind, r.number()
	}
	return kind, noBase
}

// block reads a block.
func (r *reader) block() api.Block {
	b := api.Block{Code: make([]api.Ins, r.count(r.may.code))}
	for i := range b.Code {
		b.Code[i] = r.ins()
	}
	return b
}

// ins reads an instruction.
func (r *reader) ins() api.Ins {
	x := api.Ins{Op: r.only(isOp, api.ErrForm)}
	for _, part := range Parts(x.Op) {
		switch part {
		case 'n':
			x.N = r.take(varint.GetSigned)
		case 'L':
			x.Args = r.list()
		default:
			*field(&x, part) = r.number()
		}
	}
	return x
}

// list reads a call's arguments.
func (r *reader) list() []int {
	l := make([]int, r.count(r.may.args))
	for i := range l {
		l[i] = r.number()
	}
	return l
}

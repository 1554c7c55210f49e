package code_test

import (
	"bytes"
	"math"
	"slices"

	"portolan/api"
	"portolan/varint"
)

// The roles of the numbers that a program's bytes are.
const (
	roleFuncs = iota // a count, from 1
	roleVars         // a count, as the three behind it
	roleBlocks
	roleCode
	roleArgs
	roleKind
	roleOp
	rolePlain
	roleSigned
)

// token is a number of a program's bytes, and its role.
type token struct {
	role, n int
}

// most has, of each role of a count, the greatest one that may be.
var most = []int{roleFuncs: 8, roleVars: 48, roleBlocks: 40, roleCode: 40, roleArgs: 4}

// tokens is a program's numbers, by the chapter's words.
func tokens(p api.Prog) []token {
	l := []token{{roleFuncs, len(p.Funcs)}}
	for _, f := range p.Funcs {
		l = append(l, token{roleVars, len(f.Kinds)})
		for i, kind := range f.Kinds {
			l = append(l, token{roleKind, kind})
			if kind == 2 {
				l = append(l, token{rolePlain, f.Base[i]})
			}
		}
		l = append(l, token{rolePlain, f.Params}, token{rolePlain, f.Result}, token{roleBlocks, len(f.Blocks)})
		for _, b := range f.Blocks {
			l = append(l, token{roleCode, len(b.Code)})
			for _, x := range b.Code {
				l = append(l, token{roleOp, x.Op})
				l = append(l, insTokens(x)...)
			}
		}
	}
	return l
}

// insTokens is the numbers of an instruction's parts.
func insTokens(x api.Ins) []token {
	plain := func(l ...int) []token {
		var all []token
		for _, n := range l {
			all = append(all, token{rolePlain, n})
		}
		return all
	}
	switch x.Op {
	case 1:
		return append(plain(x.D), token{roleSigned, x.N})
	case 2, 8, 17:
		return plain(x.D, x.A)
	case 3, 4, 5, 6, 9:
		return plain(x.D, x.A, x.B)
	case 7:
		return plain(x.D)
	case 10:
		return plain(x.D, x.N, x.M)
	case 11, 13, 15:
		return plain(x.D, x.A, x.N)
	case 12, 14:
		return plain(x.A, x.N, x.B)
	case 16:
		return append(plain(x.D, x.A), token{roleSigned, x.N})
	case 18:
		return plain(x.A, x.B)
	case 19:
		return append(append(plain(x.D, x.N), token{roleArgs, len(x.Args)}), plain(x.Args...)...)
	case 20, 23:
		return plain(x.A)
	case 21:
		return plain(x.N)
	case 22:
		return plain(x.A, x.N, x.M)
	}
	return nil
}

// laid is the bytes of numbers.
func laid(l []token) []byte {
	var b []byte
	for _, x := range l {
		if x.role == roleSigned {
			b = append(b, varint.PutSigned(nil, x.n)...)
		} else {
			b = append(b, varint.List(x.n)...)
		}
	}
	return b
}

// fault is bytes in the place of a number, and the error that they ask for.
type fault struct {
	b []byte
	e api.Errno
}

// faults is what may be wrong with a number of a role, whatever stands behind it.
func faults(role int) []fault {
	l := []fault{
		{[]byte{128, 0}, api.ErrSlack},
		{bytes.Repeat([]byte{255}, 10), api.ErrLong},
	}
	if role == roleSigned {
		return append(l, fault{slices.Concat(bytes.Repeat([]byte{128}, 9), []byte{2}), api.ErrLong})
	}
	l = append(l, fault{slices.Concat(bytes.Repeat([]byte{128}, 9), []byte{1}), api.ErrLong})
	refuse := func(e api.Errno, numbers ...int) {
		for _, n := range numbers {
			l = append(l, fault{varint.List(n), e})
		}
	}
	switch role {
	case roleFuncs:
		refuse(api.ErrLimit, 0, 9, 1<<32, math.MaxInt)
	case roleVars, roleBlocks, roleCode, roleArgs:
		refuse(api.ErrLimit, most[role]+1, 1<<32, math.MaxInt)
	case roleKind:
		refuse(api.ErrForm, 3, 4, 1<<32, 1<<32+1, math.MaxInt)
	case roleOp:
		refuse(api.ErrForm, 0, 24, 25, 26, 1<<32+1, math.MaxInt)
	}
	return l
}

// dice makes numbers that are the same in each run.
type dice struct {
	x uint64
}

// to is a number from 0 to below n.
func (d *dice) to(n int) int {
	d.x = d.x*6364136223846793005 + 1442695040888963407
	return int(d.x>>33) % n
}

// plain is a number that may be put: mostly a small one, at times of any size.
func (d *dice) plain() int {
	if d.to(4) > 0 {
		return d.to(50)
	}
	return (d.to(1<<31)<<32 + d.to(1<<31)) >> d.to(63)
}

// signed is any number.
func (d *dice) signed() int {
	n := d.plain()
	if d.to(2) == 0 {
		return ^n
	}
	return n
}

// ins is an instruction of an Op, each of whose parts has a number.
func (d *dice) ins(op int) api.Ins {
	x := api.Ins{Op: op}
	if !slices.Contains([]int{12, 14, 18, 20, 21, 22, 23}, op) {
		x.D = d.plain()
	}
	if !slices.Contains([]int{1, 7, 10, 19, 21}, op) {
		x.A = d.plain()
	}
	if slices.Contains([]int{3, 4, 5, 6, 9, 12, 14, 18}, op) {
		x.B = d.plain()
	}
	if slices.Contains([]int{10, 11, 12, 13, 14, 15, 19, 21, 22}, op) {
		x.N = d.plain()
	}
	if op == 1 || op == 16 {
		x.N = d.signed()
	}
	if op == 10 || op == 22 {
		x.M = d.plain()
	}
	if op == 19 {
		for range d.to(5) {
			x.Args = append(x.Args, d.plain())
		}
	}
	return x
}

// function is one of at most so many variables, blocks, and instructions of each.
func (d *dice) function(vars, blocks, code int) api.Func {
	f := api.Func{Params: d.plain(), Result: d.plain()}
	for range d.to(vars + 1) {
		kind, base := d.to(3), -1
		if kind == 2 {
			base = d.plain()
		}
		f.Kinds, f.Base = append(f.Kinds, kind), append(f.Base, base)
	}
	for range d.to(blocks + 1) {
		var b api.Block
		for range d.to(code + 1) {
			b.Code = append(b.Code, d.ins(1+d.to(23)))
		}
		f.Blocks = append(f.Blocks, b)
	}
	return f
}

// programs is many that have bytes: one of each count of functions, and of each operation, and the greatest one, among them.
func programs() []api.Prog {
	d := &dice{1}
	all := []api.Prog{of(api.Func{}), of(make([]api.Func, 8)...), greatest(d)}
	for op := 1; op <= 23; op++ {
		all = append(all, with(d.ins(op)), with(api.Ins{Op: op}))
	}
	for range 150 {
		var p api.Prog
		for range 1 + d.to(8) {
			p.Funcs = append(p.Funcs, d.function(6, 4, 5))
		}
		all = append(all, p)
	}
	return all
}

// greatest is a program whose counts are as great as they may be.
func greatest(d *dice) api.Prog {
	var p api.Prog
	for range 8 {
		f := api.Func{Kinds: make([]int, 48), Base: make([]int, 48), Blocks: make([]api.Block, 40)}
		for i := range f.Kinds {
			f.Kinds[i], f.Base[i] = 2, i
		}
		for i := range f.Blocks {
			f.Blocks[i].Code = make([]api.Ins, 40)
			for j := range f.Blocks[i].Code {
				f.Blocks[i].Code[j] = api.Ins{Op: 19, D: d.plain(), Args: []int{1, 2, 3, d.plain()}}
			}
		}
		p.Funcs = append(p.Funcs, f)
	}
	return p
}

// of is a program of functions.
func of(l ...api.Func) api.Prog {
	return api.Prog{Funcs: l}
}

// with is a program of one block, of these instructions.
func with(l ...api.Ins) api.Prog {
	return of(api.Func{Blocks: []api.Block{{Code: l}}})
}

// vars is a program of a function with variables, whatever they are.
func vars(kinds, base []int) api.Prog {
	return of(api.Func{Kinds: kinds, Base: base})
}

// copied is a program of its own memory.
func copied(p api.Prog) api.Prog {
	q := api.Prog{Funcs: slices.Clone(p.Funcs)}
	for i, f := range q.Funcs {
		q.Funcs[i].Kinds, q.Funcs[i].Base = slices.Clone(f.Kinds), slices.Clone(f.Base)
		q.Funcs[i].Blocks = slices.Clone(f.Blocks)
		for j, b := range f.Blocks {
			q.Funcs[i].Blocks[j].Code = slices.Clone(b.Code)
			for k, x := range b.Code {
				q.Funcs[i].Blocks[j].Code[k].Args = slices.Clone(x.Args)
			}
		}
	}
	return q
}

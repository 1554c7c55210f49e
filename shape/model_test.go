package shape_test

import (
	"fmt"
	"math"

	"portolan/api"
)

// role is what a field of an instruction is taken for.
type role int

// The roles. A field that is no part has none.
const (
	none role = iota
	variable
	block
	callee
	field
	size
	constant
	shift
)

// row is an operation, and the roles of its instruction's fields.
type row struct {
	op            int
	d, a, b, n, m role
	args          bool
}

// rows has all operations of a program, by the chapters' words.
func rows() []row {
	return []row{
		{op: 1, d: variable, n: constant},
		{op: 2, d: variable, a: variable},
		{op: 3, d: variable, a: variable, b: variable},
		{op: 4, d: variable, a: variable, b: variable},
		{op: 5, d: variable, a: variable, b: variable},
		{op: 6, d: variable, a: variable, b: variable},
		{op: 7, d: variable},
		{op: 8, d: variable, a: variable},
		{op: 9, d: variable, a: variable, b: variable},
		{op: 10, d: variable, n: size, m: size},
		{op: 11, d: variable, a: variable, n: field},
		{op: 12, a: variable, n: field, b: variable},
		{op: 13, d: variable, a: variable, n: field},
		{op: 14, a: variable, n: field, b: variable},
		{op: 15, d: variable, a: variable, n: field},
		{op: 16, d: variable, a: variable, n: shift},
		{op: 17, d: variable, a: variable},
		{op: 18, a: variable, b: variable},
		{op: 19, d: variable, n: callee, args: true},
		{op: 20, a: variable},
		{op: 21, n: block},
		{op: 22, a: variable, n: block, m: block},
		{op: 23, a: variable},
	}
}

// noOps is numbers that are no operations of a program.
func noOps() []int {
	return []int{math.MinInt, -23, -1, 0, 24, 25, 26, 100, 1 << 32, 1<<32 + 1, math.MaxInt}
}

// rowOf is the row of an operation, if it is one.
func rowOf(op int) (row, bool) {
	for _, r := range rows() {
		if r.op == op {
			return r, true
		}
	}
	return row{}, false
}

// place is a function's number in a program.
type place struct {
	p api.Prog
	n int
}

// limits is the least and the greatest number that a field of that role may have, in a function.
func (w place) limits(r role) (least, most int) {
	f := w.p.Funcs[w.n]
	switch r {
	case variable:
		return 0, len(f.Kinds) - 1
	case block:
		return 1, len(f.Blocks) - 1
	case callee:
		return 0, len(w.p.Funcs) - 1
	case field:
		return 0, 7
	case size:
		return 0, 8
	case constant:
		return -2147483648, 2147483648
	case shift:
		return -8, 8
	}
	return 0, 0
}

// part is a field that has a number, and its role.
type part struct {
	r role
	n *int
}

// parts is the fields of x that have a number, with the roles of its operation.
func (r row) parts(x *api.Ins) []part {
	return []part{{r.d, &x.D}, {r.a, &x.A}, {r.b, &x.B}, {r.n, &x.N}, {r.m, &x.M}}
}

// may tells, apart from the package, whether x may be there.
func (w place) may(x api.Ins) bool {
	r, ok := rowOf(x.Op)
	if !ok || !r.args && len(x.Args) > 0 {
		return false
	}
	for _, v := range x.Args {
		if v < 0 || v >= len(w.p.Funcs[w.n].Kinds) {
			return false
		}
	}
	for _, y := range r.parts(&x) {
		if least, most := w.limits(y.r); *y.n < least || *y.n > most {
			return false
		}
	}
	return !r.args || w.p.Funcs[x.N].Params == len(x.Args)
}

// far is numbers that no field may have.
func far() []int {
	return []int{math.MinInt, -1 << 32, 1 << 32, 1<<32 + 1, math.MaxInt}
}

// dice makes numbers that are the same in each run.
type dice uint64

// to is a number from least to most.
func (d *dice) to(least, most int) int {
	*d = *d*6364136223846793005 + 1442695040888963407
	return least + int(*d>>33)%(most-least+1)
}

// ins is an instruction of that operation that may be there: at times with a number at its limit.
func (d *dice) ins(w place, r row) api.Ins {
	x := api.Ins{Op: r.op}
	for _, y := range r.parts(&x) {
		least, most := w.limits(y.r)
		*y.n = []int{least, most, d.to(least, most)}[d.to(0, 2)]
	}
	if r.args {
		for range w.p.Funcs[x.N].Params {
			x.Args = append(x.Args, d.to(w.limits(variable)))
		}
	}
	return x
}

// signature is a function without blocks: at least one variable, and bases that may be.
func (d *dice) signature(vars int) api.Func {
	f := api.Func{Kinds: []int{d.to(0, 1)}, Base: []int{-1}, Result: d.to(0, 1)}
	for len(f.Kinds) < vars {
		kind, base := d.to(0, 2), -1
		for v, k := range f.Kinds {
			if kind == 2 && k == 1 && d.to(0, 1) == 0 {
				base = v
			}
		}
		if kind == 2 && base < 0 {
			kind = 0
		}
		f.Kinds, f.Base = append(f.Kinds, kind), append(f.Base, base)
	}
	most := 0
	for most < min(4, vars) && f.Kinds[most] != 2 {
		most++
	}
	f.Params = d.to(0, most)
	return f
}

// program is one that may be, of so many functions, each of at most so many variables, blocks, and instructions of each block.
func (d *dice) program(funcs, vars, blocks, code int) api.Prog {
	var p api.Prog
	for range funcs {
		p.Funcs = append(p.Funcs, d.signature(d.to(1, vars)))
	}
	p.Funcs[0].Params, p.Funcs[0].Result = 0, 0
	all := rows()
	for n := range p.Funcs {
		l := make([]api.Block, d.to(1, blocks))
		p.Funcs[n].Blocks = l
		w := place{p, n}
		for i := range l {
			for range d.to(0, code-1) {
				l[i].Code = append(l[i].Code, d.ins(w, all[d.to(0, 19)]))
			}
			last := all[d.to(20, 22)]
			if len(l) == 1 {
				last = all[22]
			}
			l[i].Code = append(l[i].Code, d.ins(w, last))
		}
	}
	return p
}

// programs is many that may be, the greatest one among them.
func programs() []api.Prog {
	d := dice(1)
	all := []api.Prog{some(), greatest(), jumps()}
	for range 60 {
		all = append(all, d.program(d.to(1, 8), d.to(1, 8), d.to(1, 5), d.to(1, 9)))
	}
	return append(all, d.program(8, 48, 40, 40))
}

// some is a program with a variable of each kind, and each operation.
func some() api.Prog {
	l := []api.Ins{
		{Op: 1, D: 0, N: 5}, {Op: 2, D: 3, A: 0}, {Op: 3, D: 0, A: 3, B: 0}, {Op: 4, D: 0, A: 3, B: 0}, {Op: 5, D: 0, A: 3, B: 0},
		{Op: 6, D: 3, A: 0, B: 0}, {Op: 7, D: 4}, {Op: 8, D: 0, A: 4}, {Op: 9, D: 0, A: 1, B: 4}, {Op: 10, D: 4, N: 2, M: 3},
		{Op: 11, D: 0, A: 1, N: 7}, {Op: 12, A: 1, B: 0, N: 7}, {Op: 13, D: 4, A: 1, N: 7}, {Op: 14, A: 1, B: 4, N: 7},
		{Op: 15, D: 2, A: 1, N: 7}, {Op: 16, D: 2, A: 2, N: -8}, {Op: 17, D: 0, A: 2}, {Op: 18, A: 2, B: 0},
		{Op: 19, D: 4, N: 1, Args: []int{3, 4}}, {Op: 20, A: 3}, {Op: 22, A: 0, N: 2, M: 1},
	}
	return api.Prog{Funcs: []api.Func{
		begin(),
		{
			Kinds: []int{0, 1, 2, 0, 1}, Base: []int{-1, -1, 1, -1, -1}, Params: 2, Result: 1,
			Blocks: []api.Block{{Code: l}, {Code: []api.Ins{{Op: 7, D: 1}, {Op: 21, N: 2}}}, {Code: []api.Ins{{Op: 23, A: 1}}}},
		},
		begin(),
	}}
}

// begin is a function that a program may begin with.
func begin() api.Func {
	return api.Func{Kinds: []int{0}, Base: []int{-1}, Blocks: []api.Block{{Code: []api.Ins{{Op: 1, N: 5}, {Op: 23}}}}}
}

// greatest is a program of which each count is as great as it may be.
func greatest() api.Prog {
	var p api.Prog
	for n := range 8 {
		f := api.Func{Params: min(n, 1) * 4, Blocks: make([]api.Block, 40)}
		for v := range 48 {
			f.Kinds, f.Base = append(f.Kinds, []int{0, 1}[v/46]), append(f.Base, -1)
		}
		f.Kinds[45], f.Base[45] = 2, 47
		for i := range f.Blocks {
			for range 39 {
				f.Blocks[i].Code = append(f.Blocks[i].Code, api.Ins{Op: 19, D: 47, N: 7, Args: []int{0, 47, 46, 45}})
			}
			f.Blocks[i].Code = append(f.Blocks[i].Code, api.Ins{Op: 22, A: 47, N: 39, M: 1})
		}
		p.Funcs = append(p.Funcs, f)
	}
	return p
}

// jumps is a program without any variable, that never ends.
func jumps() api.Prog {
	b := api.Block{Code: []api.Ins{{Op: 21, N: 1}}}
	return api.Prog{Funcs: []api.Func{{Blocks: []api.Block{b, b}}}}
}

// shown is the beginning of what is told of a fault.
func shown(x any) string {
	s := fmt.Sprint(x)
	return s[:min(len(s), 300)]
}

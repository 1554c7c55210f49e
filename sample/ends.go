// Package sample makes functions, programs and heaps for tests. No layer stands on it.
package sample

import (
	"slices"

	"portolan/api"
)

// Ends has for each block what it leads to, as its last instruction has it: no number (OpReturn), one (OpJump), or two (OpBranch).
type Ends [][]int

// Function is one whose blocks end so. Each block has another number of instructions, and those ahead of the last one have numbers of blocks in them, too, which lead nowhere.
func (l Ends) Function() api.Func {
	f := api.Func{Kinds: []int{0, 1}, Base: []int{-1, -1}}
	for b, to := range l {
		var code []api.Ins
		for i := range b % 4 {
			code = append(code, []api.Ins{{Op: 10, D: 1, N: 1, M: 2}, {Op: 1, D: 0, N: 1}, {Op: 11, A: 1, N: 2}}[i])
		}
		f.Blocks = append(f.Blocks, api.Block{Code: append(code, last(to))})
	}
	return f
}

// Split is a function as layer 13 leaves it: its first n blocks are as Function has them, and the others behind these are nothing but jumps.
func (l Ends) Split(n int) api.Func {
	f := l[:n].Function()
	for _, to := range l[n:] {
		f.Blocks = append(f.Blocks, Jump(to[0]))
	}
	return f
}

// Jump is a block that does nothing but lead there.
func Jump(to int) api.Block {
	return api.Block{Code: []api.Ins{last([]int{to})}}
}

// EndsOf is what a function's blocks lead to, as their last instructions have it. Each block has one.
func EndsOf(f api.Func) Ends {
	var l Ends
	for _, b := range f.Blocks {
		var to []int
		switch x := b.Code[len(b.Code)-1]; x.Op {
		case 21:
			to = []int{x.N}
		case 22:
			to = []int{x.N, x.M}
		}
		l = append(l, to)
	}
	return l
}

// last is the instruction that leads to these.
func last(to []int) api.Ins {
	switch len(to) {
	case 0:
		return api.Ins{Op: 23}
	case 1:
		return api.Ins{Op: 21, N: to[0]}
	}
	return api.Ins{Op: 22, N: to[0], M: to[1]}
}

// Where is the blocks of which something holds, rising.
func (l Ends) Where(holds func(b int) bool) []int {
	var out []int
	for b := range l {
		if holds(b) {
			out = append(out, b)
		}
	}
	return out
}

// From is the blocks that there is a way to from b, rising: b itself, and what is met as long as one more is.
func (l Ends) From(b int) []int {
	met := make([]bool, len(l))
	met[b] = true
	for open := []int{b}; len(open) > 0; open = open[1:] {
		for _, n := range l[open[0]] {
			if !met[n] {
				met[n] = true
				open = append(open, n)
			}
		}
	}
	return l.Where(func(b int) bool { return met[b] })
}

// Reach is the blocks that are reached, rising.
func (l Ends) Reach() []int {
	return l.From(0)
}

// Cut is the same blocks, where nothing leads on from b.
func (l Ends) Cut(b int) Ends {
	cut := slices.Clone(l)
	cut[b] = nil
	return cut
}

// Order is the order of a walk, as layer 5's chapter tells it: whoever is left stands ahead of all that were left.
func (l Ends) Order() []int {
	var out []int
	met := map[int]bool{}
	var walk func(b int)
	walk = func(b int) {
		met[b] = true
		for n := range l {
			if slices.Contains(l[b], n) && !met[n] {
				walk(n)
			}
		}
		out = append([]int{b}, out...)
	}
	walk(0)
	return out
}

// Polled is a function with an OpPoll ahead of the last instruction of each block that has room for it, as layer 14 lays them on ways back.
func Polled(f api.Func) api.Func {
	f.Blocks = slices.Clone(f.Blocks)
	for b, x := range f.Blocks {
		if n := len(x.Code); n < api.MaxCode {
			f.Blocks[b].Code = slices.Insert(slices.Clone(x.Code), n-1, api.Ins{Op: api.OpPoll})
		}
	}
	return f
}

// Odd is a function that may not be: it has an operation and two numbers wherever there is one, and a block without instructions.
func Odd(op, n, m int) api.Func {
	x := api.Ins{Op: op, D: n, A: m, B: n, N: n, M: m, Args: []int{n, m}}
	y := api.Ins{Op: op, D: m, A: n, N: m, M: n}
	return api.Func{Kinds: []int{n, 2, 1, 2}, Base: []int{m, n}, Params: m, Blocks: []api.Block{
		{Code: []api.Ins{x}}, {}, {Code: []api.Ins{y, x}}, {Code: []api.Ins{x, y}},
	}}
}

// Package sample makes functions for tests, of where their blocks lead. No layer stands on it.
package sample

import "portolan/api"

// Ends has for each block what it leads to, as its last instruction has it: no number (OpReturn), one (OpJump), or two (OpBranch).
type Ends [][]int

// Function is one whose blocks end so. Each block has another number of instructions, and those ahead of the last one have numbers of blocks in them, too, which lead nowhere.
func (l Ends) Function() api.Func {
	f := api.Func{Kinds: []int{0, 1}, Base: []int{-1, -1}}
	for b, to := range l {
		var code []api.Ins
		for i := range b % 4 {
			code = append(code, []api.Ins{{Op: 10, D: 1, N: 1, M: 2}, {Op: 1, D: 0, N: 1}, {Op: 11, A: 1, N: 2}}[i])
		}
		f.Blocks = append(f.Blocks, api.Block{Code: append(code, last(to))})
	}
	return f
}

// last is the instruction that leads to these.
func last(to []int) api.Ins {
	switch len(to) {
	case 0:
		return api.Ins{Op: 23}
	case 1:
		return api.Ins{Op: 21, N: to[0]}
	}
	return api.Ins{Op: 22, N: to[0], M: to[1]}
}

// Where is the blocks of which something holds, rising.
func (l Ends) Where(holds func(b int) bool) []int {
	var out []int
	for b := range l {
		if holds(b) {
			out = append(out, b)
		}
	}
	return out
}

// Reach is the blocks that are reached, rising: from the first one on, as long as one more is met.
func (l Ends) Reach() []int {
	met := make([]bool, len(l))
	met[0] = true
	for more := true; more; {
		more = false
		for b, to := range l {
			for _, n := range to {
				more = more || met[b] && !met[n]
				met[n] = met[n] || met[b]
			}
		}
	}
	return l.Where(func(b int) bool { return met[b] })
}

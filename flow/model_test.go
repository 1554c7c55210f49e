package flow_test

import (
	"fmt"
	"math"
	"slices"

	"portolan/api"
)

// ends has for each block what it leads to, as its last instruction has it: no number (OpReturn), one (OpJump), or two (OpBranch).
type ends [][]int

// function is one whose blocks end so. Each block has another number of instructions, and those ahead of the last one have numbers of blocks in them, too, which lead nowhere.
func (l ends) function() api.Func {
	f := api.Func{Kinds: []int{0, 1}, Base: []int{-1, -1}}
	for b, to := range l {
		var code []api.Ins
		for i := range b % 4 {
			code = append(code, []api.Ins{{Op: 10, D: 1, N: 1, M: 2}, {Op: 1, D: 0, N: 1}, {Op: 11, A: 1, N: 2}}[i])
		}
		f.Blocks = append(f.Blocks, api.Block{Code: append(code, last(to))})
	}
	return f
}

// last is the instruction that leads to these.
func last(to []int) api.Ins {
	switch len(to) {
	case 0:
		return api.Ins{Op: 23}
	case 1:
		return api.Ins{Op: 21, N: to[0]}
	}
	return api.Ins{Op: 22, N: to[0], M: to[1]}
}

// size is how many instructions the function has.
func (l ends) size() int {
	n := len(l)
	for b := range l {
		n += b % 4
	}
	return n
}

// leads tells whether there is an edge from a to b.
func (l ends) leads(a, b int) bool {
	return slices.Contains(l[a], b)
}

// next is the blocks that edges of b lead to.
func (l ends) next(b int) []int {
	return l.where(func(n int) bool { return l.leads(b, n) })
}

// prev is the blocks that edges of b come from.
func (l ends) prev(b int) []int {
	return l.where(func(n int) bool { return l.leads(n, b) })
}

// where is the blocks of which something holds, rising.
func (l ends) where(holds func(b int) bool) []int {
	var out []int
	for b := range l {
		if holds(b) {
			out = append(out, b)
		}
	}
	return out
}

// edges is all edges.
func (l ends) edges() []api.Edge {
	var out []api.Edge
	for a := range l {
		for b := range l {
			if l.leads(a, b) {
				out = append(out, api.Edge{From: a, To: b})
			}
		}
	}
	return out
}

// ways has for each two blocks whether there is a way, of one edge at least, from the one to the other: through more and more blocks.
func (l ends) ways() [][]bool {
	w := make([][]bool, len(l))
	for a := range l {
		for b := range l {
			w[a] = append(w[a], l.leads(a, b))
		}
	}
	for mid := range l {
		for a := range l {
			for b := range l {
				w[a][b] = w[a][b] || w[a][mid] && w[mid][b]
			}
		}
	}
	return w
}

// reach is the blocks that are reached.
func (l ends) reach() []int {
	w := l.ways()
	return l.where(func(b int) bool { return b == 0 || w[0][b] })
}

// order is the order of a walk, as the chapter tells it: whoever is left stands ahead of all that were left.
func (l ends) order() []int {
	var out []int
	met := map[int]bool{}
	var walk func(b int)
	walk = func(b int) {
		met[b] = true
		for n := range l {
			if l.leads(b, n) && !met[n] {
				walk(n)
			}
		}
		out = append([]int{b}, out...)
	}
	walk(0)
	return out
}

// every is all functions of so many blocks: each block ends in each way.
func every(n int) []ends {
	choices := [][]int{nil}
	for a := 1; a < n; a++ {
		choices = append(choices, []int{a})
		for b := 1; b < n; b++ {
			choices = append(choices, []int{a, b})
		}
	}
	all := []ends{nil}
	for range n {
		var longer []ends
		for _, l := range all {
			for _, to := range choices {
				longer = append(longer, append(slices.Clone(l), to))
			}
		}
		all = longer
	}
	return all
}

// samples is all functions of up to four blocks, and many of more, of up to as many as there may be.
func samples() []ends {
	var all []ends
	for n := 1; n <= 4; n++ {
		all = append(all, every(n)...)
	}
	d := dice(5)
	for range 600 {
		all = append(all, d.ends(d.to(5, 9)), d.ends(d.to(10, 40)), d.onward(d.to(2, 40)))
	}
	return append(all, d.ends(40), d.onward(40), chain(40), round(40), rungs(40))
}

// chain is blocks of which each one leads to the one behind it.
func chain(n int) ends {
	l := make(ends, n)
	for b := range n - 1 {
		l[b] = []int{b + 1}
	}
	return l
}

// round is a chain whose last block leads to the second one.
func round(n int) ends {
	l := chain(n)
	l[n-1] = []int{1}
	return l
}

// rungs is blocks of which each one leads to the two behind it.
func rungs(n int) ends {
	l := chain(n)
	for b := range n - 2 {
		l[b] = []int{b + 1, b + 2}
	}
	return l
}

// dice makes numbers that are the same in each run.
type dice uint64

// to is a number from least to most.
func (d *dice) to(least, most int) int {
	*d = *d*6364136223846793005 + 1442695040888963407
	return least + int(*d>>33)%(most-least+1)
}

// ends is blocks that lead anywhere, most of them to two.
func (d *dice) ends(n int) ends {
	l := make(ends, n)
	for b := range l {
		for range min(d.to(0, 5), 2) {
			l[b] = append(l[b], d.to(1, n-1))
		}
	}
	return l
}

// onward is blocks without a way round: each one leads to such as stand behind it, in a line that has 0 first, and the others in any order.
func (d *dice) onward(n int) ends {
	line := []int{0}
	for b := 1; b < n; b++ {
		line = slices.Insert(line, d.to(1, len(line)), b)
	}
	l := make(ends, n)
	for i, b := range line[:n-1] {
		for range min(d.to(0, 5), 2) {
			l[b] = append(l[b], line[d.to(i+1, n-1)])
		}
	}
	return l
}

// far is numbers that no block has.
func far() []int {
	return []int{math.MinInt, -1 << 32, -41, -2, -1, 40, 41, 1 << 32, 1<<32 + 1, math.MaxInt}
}

// shown is the beginning of what is told of a fault.
func shown(x any) string {
	s := fmt.Sprint(x)
	return s[:min(len(s), 300)]
}

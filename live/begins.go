package live

import (
	"portolan/api"
	"portolan/bitset"
	"portolan/flow"
	"portolan/shape"
)

// end is what is live behind the last instruction of a block.
func end(f api.Func, b int) []uint64 {
	live := begins(f)
	var next [][]uint64
	for _, n := range flow.Next(f, b) {
		next = append(next, live[n])
	}
	return bitset.Join(next...)
}

// begins is what is live at the beginning of each block. What is live there is brought against the edges, as far as no block sets it; a block is due again when more is live at its beginning than before.
func begins(f api.Func) [][]uint64 {
	var due []int
	live, set, prev := asks(f), sets(f), prevs(f)
	for b := range f.Blocks {
		due = append(due, b)
	}
	for len(due) > 0 {
		b := due[len(due)-1]
		due = due[:len(due)-1]
		for _, p := range prev[b] {
			more := bitset.Less(live[b], set[p])
			if !bitset.Holds(live[p], more) {
				live[p] = bitset.Join(live[p], more)
				due = append(due, p)
			}
		}
	}
	return live
}

// asks is what each block asks for ahead of setting it.
func asks(f api.Func) [][]uint64 {
	var l [][]uint64
	for _, b := range f.Blocks {
		l = append(l, through(b.Code, nil))
	}
	return l
}

// sets is what each block sets.
func sets(f api.Func) [][]uint64 {
	var l [][]uint64
	for _, b := range f.Blocks {
		var all []int
		for _, x := range b.Code {
			if d, ok := shape.Sets(x); ok {
				all = append(all, d)
			}
		}
		l = append(l, bitset.Of(all...))
	}
	return l
}

// prevs is of each block those that lead to it. Blocks that aren't reached are among them, since there are ways from there on, too.
func prevs(f api.Func) [][]int {
	l := make([][]int, len(f.Blocks))
	for _, e := range flow.Edges(f) {
		l[e.To] = append(l[e.To], e.From)
	}
	return l
}

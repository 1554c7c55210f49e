package flow_test

import (
	"fmt"
	"slices"

	"portolan/api"
	"portolan/sample"
)

// ends has for each block what it leads to.
type ends = sample.Ends

// size is how many instructions the function has.
func size(l ends) int {
	n := len(l)
	for b := range l {
		n += b % 4
	}
	return n
}

// leads tells whether there is an edge from a to b.
func leads(l ends, a, b int) bool {
	return slices.Contains(l[a], b)
}

// next is the blocks that edges of b lead to.
func next(l ends, b int) []int {
	return l.Where(func(n int) bool { return leads(l, b, n) })
}

// prev is the blocks that edges of b come from.
func prev(l ends, b int) []int {
	return l.Where(func(n int) bool { return leads(l, n, b) })
}

// edges is all edges.
func edges(l ends) []api.Edge {
	var out []api.Edge
	for a := range l {
		for b := range l {
			if leads(l, a, b) {
				out = append(out, api.Edge{From: a, To: b})
			}
		}
	}
	return out
}

// ways has for each two blocks whether there is a way, of one edge at least, from the one to the other: through more and more blocks.
func ways(l ends) [][]bool {
	w := make([][]bool, len(l))
	for a := range l {
		for b := range l {
			w[a] = append(w[a], leads(l, a, b))
		}
	}
	for mid := range l {
		for a := range l {
			for b := range l {
				w[a][b] = w[a][b] || w[a][mid] && w[mid][b]
			}
		}
	}
	return w
}

// shown is the beginning of what is told of a fault.
func shown(x any) string {
	s := fmt.Sprint(x)
	return s[:min(len(s), 300)]
}

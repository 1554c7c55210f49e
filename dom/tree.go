package dom

import (
	"slices"

	"portolan/api"
	"portolan/flow"
)

// none stands where there is no block.
const none = -1

// tree has of each block the next above, as far as it is known, and its turn in the order of a walk: what dominates a block has its turn ahead of it.
type tree struct {
	above, turn []int
}

// grow is the tree of a function's reached blocks. A way back shows only once what it comes from is in the tree, so the blocks are gone through till none goes elsewhere.
func grow(f api.Func) tree {
	n := len(f.Blocks)
	t := tree{above: slices.Repeat([]int{none}, n), turn: make([]int, n)}
	order, prev := flow.Order(f), comes(f)
	for i, b := range order {
		t.turn[b] = i
	}
	for t.pass(order, prev) {
	}
	return t
}

// comes has of each block those that edges to it come from.
func comes(f api.Func) [][]int {
	prev := make([][]int, len(f.Blocks))
	for _, e := range flow.Edges(f) {
		prev[e.To] = append(prev[e.To], e.From)
	}
	return prev
}

// pass brings each block but the first one below where what comes ahead of it meets, and tells whether one was elsewhere.
func (t tree) pass(order []int, prev [][]int) bool {
	moved := false
	for i, b := range order {
		if i == 0 {
			continue
		}
		if up := t.join(prev[b]); up != t.above[b] {
			t.above[b] = up
			moved = true
		}
	}
	return moved
}

// join is where those of l that are in the tree meet.
func (t tree) join(l []int) int {
	up := none
	for _, b := range l {
		switch {
		case !t.has(b):
		case up == none:
			up = b
		default:
			up = t.meet(up, b)
		}
	}
	return up
}

// meet is the lowest block that both are, or are below; both are in the tree.
func (t tree) meet(a, b int) int {
	for a != b {
		if t.turn[a] > t.turn[b] {
			a = t.above[a]
		} else {
			b = t.above[b]
		}
	}
	return a
}

// has tells whether a block is in the tree: once that has grown, whether it is reached.
func (t tree) has(b int) bool {
	return b == 0 && len(t.above) > 0 || 0 < b && b < len(t.above) && t.above[b] != none
}

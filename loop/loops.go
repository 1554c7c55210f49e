package loop

import (
	"slices"

	"portolan/api"
	"portolan/flow"
)

// loops is what a function's loops are told from: its back edges, and of each block the reached ones that lead to it.
type loops struct {
	back []api.Edge
	prev [][]int
}

// find is a function's. Blocks that aren't reached may lead into a loop, but belong to none, so they stand ahead of no block here.
func find(f api.Func) loops {
	l := loops{back: Back(f), prev: make([][]int, len(f.Blocks))}
	for _, b := range flow.Reach(f) {
		for _, n := range flow.Next(f, b) {
			l.prev[n] = append(l.prev[n], b)
		}
	}
	return l
}

// body is a head's loop: from where its back edges come, against all edges, as far as the head.
func (l loops) body(head int) []int {
	var all []int
	met := make([]bool, len(l.prev))
	meet := func(b int) {
		if !met[b] {
			met[b] = true
			all = append(all, b)
		}
	}
	for _, e := range l.back {
		if e.To == head {
			meet(head)
			meet(e.From)
		}
	}
	for i := 0; i < len(all); i++ {
		if all[i] == head {
			continue
		}
		for _, b := range l.prev[all[i]] {
			meet(b)
		}
	}
	slices.Sort(all)
	return all
}

package dom_test

import (
	"fmt"
	"slices"

	"portolan/sample"
)

// ends has for each block what it leads to.
type ends = sample.Ends

// model has for each two blocks whether the one dominates the other.
type model [][]bool

// modelOf is a function's, by the chapter's words alone: a block lies on all ways to what is not reached any more, once nothing leads on from it.
func modelOf(l ends) model {
	reach := l.Reach()
	m := make(model, len(l))
	for a := range l {
		m[a] = make([]bool, len(l))
		rest := l.Cut(a).Reach()
		for _, b := range reach {
			m[a][b] = a == b || slices.Contains(reach, a) && !slices.Contains(rest, b)
		}
		m[a][a] = slices.Contains(reach, a)
	}
	return m
}

// all is the blocks that dominate b, rising.
func (m model) all(b int) []int {
	var l []int
	for a := range m {
		if m[a][b] {
			l = append(l, a)
		}
	}
	return l
}

// lowest is the one of some blocks that all of them dominate; -1, if there is none.
func (m model) lowest(l []int) int {
	for _, b := range l {
		if !slices.ContainsFunc(l, func(a int) bool { return !m[a][b] }) {
			return b
		}
	}
	return -1
}

// above is the next above a block.
func (m model) above(b int) int {
	itself := func(a int) bool { return a == b }
	return m.lowest(slices.DeleteFunc(m.all(b), itself))
}

// meet is of the blocks that dominate both the one that all of these dominate.
func (m model) meet(a, b int) int {
	elsewhere := func(c int) bool { return !m[c][a] }
	return m.lowest(slices.DeleteFunc(m.all(b), elsewhere))
}

// answers is what the model says to each call.
func (m model) answers() answers {
	a := answers{all: make([][]int, len(m)), kids: make([][]int, len(m)), meet: make([][]int, len(m)), dominates: m}
	for b := range m {
		up := m.above(b)
		a.above = append(a.above, up)
		a.all[b] = m.all(b)
		if up >= 0 {
			a.kids[up] = append(a.kids[up], b)
		}
		for c := range m {
			a.meet[b] = append(a.meet[b], m.meet(b, c))
		}
	}
	return a
}

// shown is the beginning of what is told of a fault.
func shown(x any) string {
	s := fmt.Sprint(x)
	return s[:min(len(s), 600)]
}

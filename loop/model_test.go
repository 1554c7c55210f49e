package loop_test

import (
	"fmt"
	"slices"

	"portolan/api"
	"portolan/sample"
)

// ends has for each block what it leads to.
type ends = sample.Ends

// model is a function, and what the chapter's words ask for of it: the blocks that are reached, the order of a walk, and of each block what is still reached, once nothing leads on from it.
type model struct {
	l            ends
	reach, order []int
	past         [][]int
}

// modelOf is a function's.
func modelOf(l ends) model {
	m := model{l: l, reach: l.Reach(), order: l.Order()}
	for b := range l {
		m.past = append(m.past, l.Cut(b).Reach())
	}
	return m
}

// dominates tells whether a lies on all ways to b; both are reached.
func (m model) dominates(a, b int) bool {
	return a == b || !slices.Contains(m.past[a], b)
}

// turns is the edges that turn back.
func (m model) turns() []api.Edge {
	var out []api.Edge
	for _, a := range m.reach {
		for b := range m.l {
			if slices.Contains(m.l[a], b) && slices.Index(m.order, b) <= slices.Index(m.order, a) {
				out = append(out, api.Edge{From: a, To: b})
			}
		}
	}
	return out
}

// back is the back edges.
func (m model) back() []api.Edge {
	return slices.DeleteFunc(m.turns(), func(e api.Edge) bool { return !m.dominates(e.To, e.From) })
}

// tails is from where back edges lead to a block.
func (m model) tails(head int) []int {
	var out []int
	for _, e := range m.back() {
		if e.To == head {
			out = append(out, e.From)
		}
	}
	return out
}

// body is a head's loop: itself, and from where there is a way to a tail, though nothing leads on from the head.
func (m model) body(head int) []int {
	tails, cut := m.tails(head), m.l.Cut(head)
	if len(tails) == 0 {
		return nil
	}
	return m.l.Where(func(b int) bool {
		comes := func(n int) bool { return n != head && slices.Contains(tails, n) }
		return b == head || slices.Contains(m.reach, b) && slices.ContainsFunc(cut.From(b), comes)
	})
}

// answers is what the model says to each call.
func (m model) answers() answers {
	a := answers{turns: m.turns(), back: m.back(), deep: make([]int, len(m.l))}
	a.plain = slices.Equal(a.turns, a.back)
	for b := range m.l {
		body := m.body(b)
		a.body = append(a.body, body)
		if len(body) > 0 {
			a.heads = append(a.heads, b)
		}
		for _, n := range body {
			a.deep[n]++
		}
	}
	return a
}

// shown is the beginning of what is told of a fault.
func shown(x any) string {
	s := fmt.Sprint(x)
	return s[:min(len(s), 600)]
}

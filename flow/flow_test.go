package flow_test

import (
	"slices"
	"testing"

	"portolan/api"
	"portolan/flow"
	"portolan/sample"
	"portolan/shape"
)

// list asks whether a call's answer is the one it should be.
func list[T comparable](t *testing.T, l ends, call string, got, want []T) {
	t.Helper()
	if !slices.Equal(got, want) {
		t.Errorf("%s of %s = %v; want %v", call, shown(l), got, want)
	}
}

// diamond is the chapter's example.
func diamond() ends {
	return ends{{1, 2}, {3}, {3}, nil}
}

// written is a function, and what is to be answered of it.
type written struct {
	l            ends
	next, prev   [][]int
	edges        [][2]int
	reach, order []int
	size         int
}

// writtenOut is functions whose answers are written out: the chapter's example, turned branches, blocks that lead to themselves, are not reached, or are led to twice.
func writtenOut() []written {
	return []written{
		{
			l:    ends{nil},
			next: [][]int{nil}, prev: [][]int{nil}, edges: nil,
			reach: []int{0}, order: []int{0}, size: 1,
		},
		{
			l:    diamond(),
			next: [][]int{{1, 2}, {3}, {3}, nil}, prev: [][]int{nil, {0}, {0}, {1, 2}}, edges: [][2]int{{0, 1}, {0, 2}, {1, 3}, {2, 3}},
			reach: []int{0, 1, 2, 3}, order: []int{0, 2, 1, 3}, size: 10,
		},
		{
			l:    ends{{2, 1}, {3, 3}, {3}, nil},
			next: [][]int{{1, 2}, {3}, {3}, nil}, prev: [][]int{nil, {0}, {0}, {1, 2}}, edges: [][2]int{{0, 1}, {0, 2}, {1, 3}, {2, 3}},
			reach: []int{0, 1, 2, 3}, order: []int{0, 2, 1, 3}, size: 10,
		},
		{
			l:    ends{{1}, {1, 2}, nil},
			next: [][]int{{1}, {1, 2}, nil}, prev: [][]int{nil, {0, 1}, {1}}, edges: [][2]int{{0, 1}, {1, 1}, {1, 2}},
			reach: []int{0, 1, 2}, order: []int{0, 1, 2}, size: 6,
		},
		{
			l:    ends{{2}, {2}, {2, 2}},
			next: [][]int{{2}, {2}, {2}}, prev: [][]int{nil, nil, {0, 1, 2}}, edges: [][2]int{{0, 2}, {1, 2}, {2, 2}},
			reach: []int{0, 2}, order: []int{0, 2}, size: 6,
		},
		{
			l:    ends{nil, {2}, {1}},
			next: [][]int{nil, {2}, {1}}, prev: [][]int{nil, {2}, {1}}, edges: [][2]int{{1, 2}, {2, 1}},
			reach: []int{0}, order: []int{0}, size: 6,
		},
		{
			l:    ends{{4, 1}, {3, 2}, {3}, {4}, nil},
			next: [][]int{{1, 4}, {2, 3}, {3}, {4}, nil}, prev: [][]int{nil, {0}, {1}, {1, 2}, {0, 3}},
			edges: [][2]int{{0, 1}, {0, 4}, {1, 2}, {1, 3}, {2, 3}, {3, 4}},
			reach: []int{0, 1, 2, 3, 4}, order: []int{0, 1, 2, 3, 4}, size: 11,
		},
		{
			l:    ends{{3}, nil, {1, 1}, {1, 2}},
			next: [][]int{{3}, nil, {1}, {1, 2}}, prev: [][]int{nil, {2, 3}, {3}, {0}}, edges: [][2]int{{0, 3}, {2, 1}, {3, 1}, {3, 2}},
			reach: []int{0, 1, 2, 3}, order: []int{0, 3, 2, 1}, size: 10,
		},
	}
}

// P5.1: all calls, of functions that are written out.
func TestWrittenOut(t *testing.T) {
	for _, x := range writtenOut() {
		f := x.l.Function()
		for b := range x.l {
			list(t, x.l, "Next", flow.Next(f, b), x.next[b])
			list(t, x.l, "Prev", flow.Prev(f, b), x.prev[b])
		}
		var edges []api.Edge
		for _, e := range x.edges {
			edges = append(edges, api.Edge{From: e[0], To: e[1]})
		}
		list(t, x.l, "Edges", flow.Edges(f), edges)
		list(t, x.l, "Reach", flow.Reach(f), x.reach)
		list(t, x.l, "Order", flow.Order(f), x.order)
		if n := flow.Size(f); n != x.size {
			t.Errorf("Size of %v = %d; want %d", x.l, n, x.size)
		}
	}
}

// P5.1: of Order, a block is left when all next to it were walked, the lower one first: what is met further on is not tried again.
func TestOrder(t *testing.T) {
	for _, x := range []struct {
		l    ends
		want []int
	}{
		{ends{{1}, {2, 3}, {1}, nil}, []int{0, 1, 3, 2}},
		{ends{{1}, {3, 2}, nil, {1}}, []int{0, 1, 3, 2}},
		{ends{{2, 1}, {2}, {1}}, []int{0, 1, 2}},
		{ends{{2, 1}, nil, {1}}, []int{0, 2, 1}},
		{ends{{2}, nil, {1, 1}}, []int{0, 2, 1}},
		{ends{{3, 1}, {2}, {3}, {4}, nil}, []int{0, 1, 2, 3, 4}},
		{ends{{1, 5}, {2, 4}, {3}, nil, {3}, {4, 2}}, []int{0, 5, 1, 4, 2, 3}},
		{ends{{4}, {3}, {1}, {4, 2}, {5, 3}, nil}, []int{0, 4, 5, 3, 2, 1}},
	} {
		list(t, x.l, "Order", flow.Order(x.l.Function()), x.want)
	}
	rising := make([]int, 40)
	for b := range rising {
		rising[b] = b
	}
	for _, l := range []ends{sample.Chain(40), sample.Round(40), sample.Rungs(40)} {
		list(t, l, "Order", flow.Order(l.Function()), rising)
	}
}

// P5.1: all calls, of all small functions and many others, by a model apart from the package.
func TestModel(t *testing.T) {
	for _, l := range sample.Many() {
		f := l.Function()
		if shape.Check(api.Prog{Funcs: []api.Func{f}}) != api.OK {
			t.Fatalf("%v makes no program", l)
		}
		for b := range l {
			list(t, l, "Next", flow.Next(f, b), next(l, b))
			list(t, l, "Prev", flow.Prev(f, b), prev(l, b))
		}
		list(t, l, "Edges", flow.Edges(f), edges(l))
		list(t, l, "Reach", flow.Reach(f), l.Reach())
		list(t, l, "Order", flow.Order(f), l.Order())
		if n := flow.Size(f); n != size(l) {
			t.Errorf("Size of %s = %d; want %d", shown(l), n, size(l))
		}
		if t.Failed() {
			t.FailNow()
		}
	}
}

// P5.1: blocks that aren't there.
func TestNoBlock(t *testing.T) {
	for _, l := range []ends{{nil}, diamond(), sample.Round(5), sample.Chain(40), sample.Round(40)} {
		f := l.Function()
		for _, b := range append(sample.Far(), len(l), len(l)+1) {
			if b >= 0 && b < len(l) {
				continue
			}
			list(t, l, "Next", flow.Next(f, b), nil)
			list(t, l, "Prev", flow.Prev(f, b), nil)
		}
	}
}

// P5.1: of Size, all blocks count, whether they are reached or not, and up to as much as there may be.
func TestSize(t *testing.T) {
	code := append(slices.Repeat([]api.Ins{{Op: 1}}, 39), api.Ins{Op: 23})
	for _, x := range []struct{ blocks, code int }{{1, 1}, {1, 40}, {2, 1}, {3, 7}, {40, 1}, {40, 40}} {
		b := api.Block{Code: code[40-x.code:]}
		f := api.Func{Kinds: []int{0}, Base: []int{-1}, Blocks: slices.Repeat([]api.Block{b}, x.blocks)}
		if n := flow.Size(f); n != x.blocks*x.code {
			t.Errorf("Size of %v = %d", x, n)
		}
	}
}

// P5.2: the order has what is reached, each once, 0 first; where there is no way back over an edge, it leads onward.
func TestOnward(t *testing.T) {
	for _, l := range sample.Many() {
		order, ways := flow.Order(l.Function()), ways(l)
		sorted := slices.Sorted(slices.Values(order))
		if order[0] != 0 || !slices.Equal(sorted, l.Reach()) {
			t.Fatalf("Order of %s = %v", shown(l), order)
		}
		for _, e := range edges(l) {
			from, to := slices.Index(order, e.From), slices.Index(order, e.To)
			if from >= 0 && !ways[e.To][e.From] && from >= to {
				t.Fatalf("Order of %s = %v: %v leads back", shown(l), order, e)
			}
		}
	}
}

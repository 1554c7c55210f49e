package flow_test

import (
	"math"
	"reflect"
	"slices"
	"testing"

	"portolan/api"
	"portolan/flow"
	"portolan/sample"
)

// answers is what all calls answer.
type answers struct {
	next, prev   [][]int
	edges        []api.Edge
	reach, order []int
	size         int
}

// ask makes each call of a function.
func ask(f api.Func) answers {
	a := answers{edges: flow.Edges(f), reach: flow.Reach(f), order: flow.Order(f), size: flow.Size(f)}
	for b := range f.Blocks {
		a.next, a.prev = append(a.next, flow.Next(f, b)), append(a.prev, flow.Prev(f, b))
	}
	return a
}

// copied is answers of their own memory.
func (a answers) copied() answers {
	a.next, a.prev = slices.Clone(a.next), slices.Clone(a.prev)
	for b := range a.next {
		a.next[b], a.prev[b] = slices.Clone(a.next[b]), slices.Clone(a.prev[b])
	}
	a.edges, a.reach, a.order = slices.Clone(a.edges), slices.Clone(a.reach), slices.Clone(a.order)
	return a
}

// spoil writes into all answers, and into their spare room.
func (a answers) spoil() {
	for _, l := range append(slices.Concat(a.next, a.prev), a.reach, a.order) {
		l = l[:cap(l)]
		for i := range l {
			l[i] = 99
		}
	}
	l := a.edges[:cap(a.edges)]
	for i := range l {
		l[i] = api.Edge{From: 99, To: 99}
	}
}

// P5.1, and rules 5 and 6 of P1: answers are new memory, share none with one another, and each call answers the same again.
func TestNewMemory(t *testing.T) {
	for _, l := range append(sample.Every(3), diamond(), sample.Round(9), sample.Rungs(40)) {
		f := l.Function()
		first, second := ask(f), ask(f)
		want := first.copied()
		if !reflect.DeepEqual(second.copied(), want) {
			t.Fatalf("%s: %v, then %v", shown(l), first, second)
		}
		second.spoil()
		if !reflect.DeepEqual(first.copied(), want) || !reflect.DeepEqual(ask(f).copied(), want) {
			t.Fatalf("%s: answers share memory", shown(l))
		}
		for i := range first.order {
			first.order[i] = 98
		}
		if !slices.Equal(first.reach, want.reach) {
			t.Fatalf("%s: Reach hangs on Order", shown(l))
		}
	}
}

// P5.1, and rule 5 of P1: what is handed in stays as it was, its spare room, too, and what stands there is not read.
func TestStays(t *testing.T) {
	for _, l := range append(sample.Every(3), diamond(), sample.Round(9), sample.Rungs(40)) {
		f := sample.Roomy(l.Function())
		before, want := sample.Whole(f), ask(l.Function())
		if a := ask(f); !reflect.DeepEqual(a.copied(), want.copied()) {
			t.Errorf("%s answers %v", shown(l), a)
		}
		for _, b := range sample.Far() {
			flow.Next(f, b)
			flow.Prev(f, b)
		}
		if !reflect.DeepEqual(sample.Whole(f), before) {
			t.Errorf("%s became %s", shown(before), shown(sample.Whole(f)))
		}
	}
}

// P5.1: answers hang on the blocks alone.
func TestBlocksAlone(t *testing.T) {
	for _, l := range []ends{{nil}, diamond(), sample.Round(9), sample.Rungs(40)} {
		f := l.Function()
		g := api.Func{Kinds: []int{1, 1, 0, 0, 2}, Base: []int{-1, -1, -1, -1, 0}, Params: 3, Result: 1, Blocks: f.Blocks}
		if a, b := ask(f), ask(g); !reflect.DeepEqual(a, b) {
			t.Errorf("%s answers %v; of other variables %v", shown(l), a, b)
		}
	}
}

// Rule 1 of P1: calls end and don't panic, also at functions that may not be, of which nothing else is promised.
func TestAnything(t *testing.T) {
	numbers := append(sample.Far(), 0, 1, 2, 3, math.MaxInt-1)
	for _, n := range numbers {
		for _, m := range numbers {
			for op := -1; op < 30; op++ {
				f := sample.Odd(op, n, m)
				ask(f)
				flow.Next(f, n)
				flow.Prev(f, m)
			}
		}
	}
	for _, f := range []api.Func{{}, {Blocks: []api.Block{}}, {Blocks: make([]api.Block, 41)}} {
		ask(f)
		for _, b := range numbers {
			flow.Next(f, b)
			flow.Prev(f, b)
		}
	}
}

// Rule 1 of P1: calls end, however many blocks there are.
func TestMany(t *testing.T) {
	for _, l := range []ends{sample.Chain(1 << 18), sample.Round(1 << 18), sample.Rungs(1 << 18)} {
		f := l.Function()
		if n := len(flow.Order(f)); n != len(l) || len(flow.Reach(f)) != n || len(flow.Edges(f)) < n-1 || flow.Size(f) != size(l) {
			t.Errorf("%d of %d blocks are reached", n, len(l))
		}
		flow.Prev(f, len(l)-1)
	}
}

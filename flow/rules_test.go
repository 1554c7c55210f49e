package flow_test

import (
	"math"
	"reflect"
	"slices"
	"testing"

	"portolan/api"
	"portolan/flow"
)

// answers is what all calls answer.
type answers struct {
	next, prev   [][]int
	edges        []api.Edge
	reach, order []int
	size         int
}

// ask makes each call of a function.
func ask(f api.Func) answers {
	a := answers{edges: flow.Edges(f), reach: flow.Reach(f), order: flow.Order(f), size: flow.Size(f)}
	for b := range f.Blocks {
		a.next, a.prev = append(a.next, flow.Next(f, b)), append(a.prev, flow.Prev(f, b))
	}
	return a
}

// copied is answers of their own memory.
func (a answers) copied() answers {
	a.next, a.prev = slices.Clone(a.next), slices.Clone(a.prev)
	for b := range a.next {
		a.next[b], a.prev[b] = slices.Clone(a.next[b]), slices.Clone(a.prev[b])
	}
	a.edges, a.reach, a.order = slices.Clone(a.edges), slices.Clone(a.reach), slices.Clone(a.order)
	return a
}

// spoil writes into all answers, and into their spare room.
func (a answers) spoil() {
	for _, l := range append(slices.Concat(a.next, a.prev), a.reach, a.order) {
		l = l[:cap(l)]
		for i := range l {
			l[i] = 99
		}
	}
	l := a.edges[:cap(a.edges)]
	for i := range l {
		l[i] = api.Edge{From: 99, To: 99}
	}
}

// P5.1, and rules 5 and 6 of P1: answers are new memory, share none with one another, and each call answers the same again.
func TestNewMemory(t *testing.T) {
	for _, l := range append(every(3), diamond(), round(9), rungs(40)) {
		f := l.function()
		first, second := ask(f), ask(f)
		want := first.copied()
		if !reflect.DeepEqual(second.copied(), want) {
			t.Fatalf("%s: %v, then %v", shown(l), first, second)
		}
		second.spoil()
		if !reflect.DeepEqual(first.copied(), want) || !reflect.DeepEqual(ask(f).copied(), want) {
			t.Fatalf("%s: answers share memory", shown(l))
		}
		for i := range first.order {
			first.order[i] = 98
		}
		if !slices.Equal(first.reach, want.reach) {
			t.Fatalf("%s: Reach hangs on Order", shown(l))
		}
	}
}

// roomy is a function with spare room, which is marked, behind each list.
func roomy(f api.Func) api.Func {
	f.Kinds, f.Base = room(f.Kinds, 77), room(f.Base, 77)
	blocks := room(f.Blocks, api.Block{Code: []api.Ins{{Op: 77}}})
	for b := range blocks {
		blocks[b].Code = room(blocks[b].Code, api.Ins{Op: 21, N: 77})
	}
	f.Blocks = blocks
	return f
}

// room is a list of its own memory, behind which x stands in spare room.
func room[T any](l []T, x T) []T {
	return append(slices.Clone(l), x)[:len(l)]
}

// whole is a copy of a roomy function, with what stands in its spare room.
func whole(f api.Func) api.Func {
	f.Kinds, f.Base = spare(f.Kinds), spare(f.Base)
	blocks := spare(f.Blocks)
	for b := range len(blocks) - 1 {
		blocks[b].Code = spare(blocks[b].Code)
	}
	f.Blocks = blocks
	return f
}

// spare is a copy of a list, and of what stands in the spare room that room made.
func spare[T any](l []T) []T {
	return slices.Clone(l[:len(l)+1])
}

// P5.1, and rule 5 of P1: what is handed in stays as it was, its spare room, too, and what stands there is not read.
func TestStays(t *testing.T) {
	for _, l := range append(every(3), diamond(), round(9), rungs(40)) {
		f := roomy(l.function())
		before, want := whole(f), ask(l.function())
		if a := ask(f); !reflect.DeepEqual(a.copied(), want.copied()) {
			t.Errorf("%s answers %v", shown(l), a)
		}
		for _, b := range far() {
			flow.Next(f, b)
			flow.Prev(f, b)
		}
		if !reflect.DeepEqual(whole(f), before) {
			t.Errorf("%s became %s", shown(before), shown(whole(f)))
		}
	}
}

// P5.1: answers hang on the blocks alone.
func TestBlocksAlone(t *testing.T) {
	for _, l := range []ends{{nil}, diamond(), round(9), rungs(40)} {
		f := l.function()
		g := api.Func{Kinds: []int{1, 1, 0, 0, 2}, Base: []int{-1, -1, -1, -1, 0}, Params: 3, Result: 1, Blocks: f.Blocks}
		if a, b := ask(f), ask(g); !reflect.DeepEqual(a, b) {
			t.Errorf("%s answers %v; of other variables %v", shown(l), a, b)
		}
	}
}

// Rule 1 of P1: calls end and don't panic, also at functions that may not be, of which nothing else is promised.
func TestAnything(t *testing.T) {
	numbers := append(far(), 0, 1, 2, 3, math.MaxInt-1)
	for _, n := range numbers {
		for _, m := range numbers {
			for op := -1; op < 30; op++ {
				x := api.Ins{Op: op, D: n, A: m, B: n, N: n, M: m, Args: []int{n, m}}
				y := api.Ins{Op: op, N: m, M: n}
				f := api.Func{Kinds: []int{n}, Params: m, Blocks: []api.Block{{Code: []api.Ins{x}}, {}, {Code: []api.Ins{y, x}}, {Code: []api.Ins{x, y}}}}
				ask(f)
				flow.Next(f, n)
				flow.Prev(f, m)
			}
		}
	}
	for _, f := range []api.Func{{}, {Blocks: []api.Block{}}, {Blocks: make([]api.Block, 41)}} {
		ask(f)
		for _, b := range numbers {
			flow.Next(f, b)
			flow.Prev(f, b)
		}
	}
}

// Rule 1 of P1: calls end, however many blocks there are.
func TestMany(t *testing.T) {
	for _, l := range []ends{chain(1 << 18), round(1 << 18), rungs(1 << 18)} {
		f := l.function()
		if n := len(flow.Order(f)); n != len(l) || len(flow.Reach(f)) != n || len(flow.Edges(f)) < n-1 || flow.Size(f) != l.size() {
			t.Errorf("%d of %d blocks are reached", n, len(l))
		}
		flow.Prev(f, len(l)-1)
	}
}

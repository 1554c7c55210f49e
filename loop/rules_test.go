package loop_test

import (
	"math"
	"reflect"
	"slices"
	"testing"

	"portolan/api"
	"portolan/loop"
	"portolan/sample"
)

// answers is what all calls answer.
type answers struct {
	turns, back []api.Edge
	heads       []int
	body        [][]int
	deep        []int
	plain       bool
}

// ask makes each call of a function, with each block.
func ask(f api.Func) answers {
	a := answers{turns: loop.Turns(f), back: loop.Back(f), heads: loop.Heads(f), deep: loop.Deep(f), plain: loop.Plain(f)}
	for b := range f.Blocks {
		a.body = append(a.body, loop.Body(f, b))
	}
	return a
}

// same tells whether answers are alike.
func (a answers) same(b answers) bool {
	return slices.Equal(a.turns, b.turns) && slices.Equal(a.back, b.back) && slices.Equal(a.heads, b.heads) &&
		slices.EqualFunc(a.body, b.body, slices.Equal) && slices.Equal(a.deep, b.deep) && a.plain == b.plain
}

// copied is answers of their own memory.
func (a answers) copied() answers {
	a.turns, a.back = slices.Clone(a.turns), slices.Clone(a.back)
	a.heads, a.deep, a.body = slices.Clone(a.heads), slices.Clone(a.deep), slices.Clone(a.body)
	for b := range a.body {
		a.body[b] = slices.Clone(a.body[b])
	}
	return a
}

// spoil writes into all lists that calls made, and into their spare room.
func (a answers) spoil() {
	for _, l := range append(slices.Clone(a.body), a.heads, a.deep) {
		l = l[:cap(l)]
		for i := range l {
			l[i] = 99
		}
	}
	for _, l := range [][]api.Edge{a.turns, a.back} {
		l = l[:cap(l)]
		for i := range l {
			l[i] = api.Edge{From: 99, To: 99}
		}
	}
}

// some is functions for the rules.
func some() []ends {
	all := append(sample.Every(3), sample.Round(9), sample.Nest(12), sample.Rungs(40))
	for _, x := range append(nested(), crossed()...) {
		all = append(all, x.l)
	}
	return all
}

// P7.1, and rules 5 and 6 of P1: answers are new memory, share none with one another, and each call answers the same again.
func TestNewMemory(t *testing.T) {
	for _, l := range some() {
		f := l.Function()
		first, second := ask(f), ask(f)
		want := first.copied()
		if !second.same(want) {
			t.Fatalf("%v: %s, then %s", l, shown(first), shown(second))
		}
		second.spoil()
		if !first.same(want) || !ask(f).same(want) {
			t.Fatalf("%v: answers share memory", l)
		}
	}
}

// P7.1, and rule 5 of P1: what is handed in stays as it was, its spare room, too, and what stands there is not read.
func TestStays(t *testing.T) {
	for _, l := range some() {
		f := sample.Roomy(l.Function())
		before, want := sample.Whole(f), ask(l.Function())
		if a := ask(f); !a.same(want) {
			t.Errorf("%v answers %s", l, shown(a))
		}
		for _, b := range sample.Far() {
			loop.Body(f, b)
		}
		if !reflect.DeepEqual(sample.Whole(f), before) {
			t.Errorf("%s became %s", shown(before), shown(sample.Whole(f)))
		}
	}
}

// P7.1: answers hang on what blocks lead to alone; there may be an OpPoll in them, too.
func TestBlocksAlone(t *testing.T) {
	for _, l := range some() {
		f := l.Function()
		g := sample.Polled(f)
		g.Kinds, g.Base, g.Params, g.Result = []int{1, 1, 0, 0, 2}, []int{-1, -1, -1, -1, 0}, 3, 1
		if a, b := ask(f), ask(g); !a.same(b) {
			t.Errorf("%v answers %s; of other code %s", l, shown(a), shown(b))
		}
	}
}

// Rule 1 of P1: calls end and don't panic, also at functions that may not be, of which nothing else is promised.
func TestAnything(t *testing.T) {
	numbers := append(sample.Far(), 0, 1, 2, 3, math.MaxInt-1)
	for _, n := range numbers {
		for _, m := range numbers {
			for op := 20; op < 25; op++ {
				f := sample.Odd(op, n, m)
				ask(f)
				loop.Body(f, n)
			}
		}
	}
	first := ends{{1, 0}, {2, 3}, {0}, {3, 1}}
	for _, f := range []api.Func{{}, {Blocks: []api.Block{}}, {Blocks: make([]api.Block, 41)}, first.Function()} {
		ask(f)
		for _, b := range numbers {
			loop.Body(f, b)
		}
	}
}

// Rule 1 of P1: calls end, however many blocks there are.
func TestMany(t *testing.T) {
	const n = 1 << 16
	f := sample.Round(n).Function()
	if l := loop.Body(f, 1); len(l) != n-1 || len(loop.Back(f)) != 1 || len(loop.Turns(f)) != 1 || !loop.Plain(f) || loop.Deep(f)[n-1] != 1 {
		t.Errorf("%d blocks are in the loop", len(l))
	}
	for _, l := range []ends{sample.Chain(n), sample.Rungs(n)} {
		f := l.Function()
		if len(loop.Heads(f)) != 0 || !loop.Plain(f) || len(loop.Body(f, 1)) != 0 || len(loop.Deep(f)) != n {
			t.Errorf("Heads = %v", loop.Heads(f))
		}
	}
}

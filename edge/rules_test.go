package edge_test

import (
	"math"
	"reflect"
	"slices"
	"testing"

	"portolan/api"
	"portolan/code"
	"portolan/edge"
	"portolan/sample"
)

// answers is what all calls answer of a program.
type answers struct {
	edges [][]api.Edge
	split api.Prog
	whole api.Prog
	e     []api.Errno
}

// ask makes each call of a program, and of its functions.
func ask(p api.Prog) answers {
	var a answers
	for _, f := range p.Funcs {
		g, e := edge.Split(f)
		a.edges = append(a.edges, edge.Critical(f))
		a.split.Funcs, a.e = append(a.split.Funcs, g), append(a.e, e)
	}
	whole, e := edge.Whole(p)
	a.whole, a.e = whole, append(a.e, e)
	return a
}

// same tells whether answers are alike.
func (a answers) same(b answers) bool {
	return slices.EqualFunc(a.edges, b.edges, slices.Equal) && slices.Equal(a.e, b.e) &&
		code.Same(a.split, b.split) && code.Same(a.whole, b.whole)
}

// copied is answers of their own memory.
func (a answers) copied() answers {
	return answers{sample.Copied(a.edges), sample.RoomyProgram(a.split), sample.RoomyProgram(a.whole), slices.Clone(a.e)}
}

// P13.1, and rules 5 and 6 of P1: what is handed in stays as it was, its spare room, too, and what stands there is not read.
func TestStays(t *testing.T) {
	for _, p := range few() {
		q := sample.RoomyProgram(p)
		before, want := sample.WholeProgram(q), ask(p)
		if got := ask(q); !got.same(want) {
			t.Fatalf("%s answers %s; want %s", shown(p), shown(got), shown(want))
		}
		if !reflect.DeepEqual(sample.WholeProgram(q), before) {
			t.Fatalf("%s became %s", shown(before), shown(sample.WholeProgram(q)))
		}
	}
}

// P13.1, and rules 5 and 6 of P1: answers are new memory, no two of their lists share any, and each call answers the same again.
func TestNewMemory(t *testing.T) {
	for _, p := range few() {
		q := sample.RoomyProgram(p)
		before, first, second := sample.WholeProgram(q), ask(q), ask(q)
		want := first.copied()
		if !second.same(want) {
			t.Fatalf("%s answers %s, then %s", shown(p), shown(want), shown(second))
		}
		if !sample.Apart(second.edges, api.Edge{From: 77}) || !sample.Parted(second.split) || !sample.Parted(second.whole) {
			t.Fatalf("of %s answers' lists share memory", shown(p))
		}
		if !first.same(want) || !reflect.DeepEqual(sample.WholeProgram(q), before) {
			t.Fatalf("of %s answers share memory with one another, or with what was handed in", shown(p))
		}
		sample.Wipe(q)
		if !first.same(want) || !ask(p).same(want) {
			t.Fatalf("of %s an answer hangs on what was handed in", shown(p))
		}
	}
}

// P13.1, and rule 4 of P1: lists without anything may be nil or empty.
func TestEmpty(t *testing.T) {
	for _, p := range few() {
		bare := api.Prog{Funcs: slices.Clone(p.Funcs)}
		for n, f := range p.Funcs {
			bare.Funcs[n] = sample.Bare(f)
		}
		if !ask(bare).same(ask(p)) {
			t.Errorf("%s isn't as with lists without anything", shown(p))
		}
	}
	for _, l := range [][]int{nil, {}} {
		f := api.Func{Kinds: l, Base: l, Blocks: []api.Block{{Code: []api.Ins{{Op: api.OpJump, N: 1, Args: l}}}, {Code: []api.Ins{{Op: api.OpReturn, Args: l}}}}}
		splits(t, f, nil, f, api.OK)
		whole(t, one(f), one(f), api.OK)
	}
	whole(t, api.Prog{Funcs: []api.Func{}}, api.Prog{}, api.OK)
}

// Rule 1 of P1: calls end and don't panic, also at functions that may not be, of which nothing else is promised.
func TestAnything(t *testing.T) {
	numbers := append(sample.Far(), 0, 1, 2, 3, math.MaxInt-1)
	for _, n := range numbers {
		for _, m := range numbers {
			for op := -1; op < 30; op++ {
				f := sample.Odd(op, n, m)
				ask(api.Prog{Funcs: []api.Func{f, {}, f}})
			}
		}
	}
	for _, f := range []api.Func{{}, {Blocks: []api.Block{}}, {Blocks: make([]api.Block, 40)}, {Blocks: make([]api.Block, 41)}, ends{{0, 1}, {0, 1}}.Function()} {
		ask(one(f))
	}
}

// Rule 1 of P1: calls end, however many blocks, instructions and functions there are.
func TestMany(t *testing.T) {
	const n = 1 << 16
	for _, x := range []struct {
		l     ends
		edges int
	}{{sample.Chain(n), 0}, {sample.Round(n), 0}, {sample.Rungs(n), 2*n - 5}, {sample.Nest(n), n/2 - 1}} {
		f := x.l.Function()
		if l := edge.Critical(f); len(l) != x.edges {
			t.Errorf("of %d blocks %d edges are critical; want %d", n, len(l), x.edges)
		}
		edge.Split(f)
		edge.Whole(one(f))
	}
	f := fan(3, 1).Function()
	f.Blocks[0].Code = append(make([]api.Ins, n), f.Blocks[0].Code...)
	if g, e := edge.Split(f); e != api.OK || len(g.Blocks) != 4 || len(g.Blocks[0].Code) != n+1 {
		t.Errorf("of %d instructions: %d blocks, %d", n, len(g.Blocks), e)
	}
	edge.Whole(api.Prog{Funcs: slices.Repeat([]api.Func{fan(3, 1).Function()}, n)})
}

package run_test

import (
	"math"
	"reflect"
	"slices"
	"testing"

	"portolan/api"
	"portolan/kind"
	"portolan/run"
	"portolan/sample"
)

// answers is what all calls answer of a program.
type answers struct {
	trace api.Trace
	steps int
	heap  api.Heap
}

// ask makes each call of a program, with such fuel.
func ask(p api.Prog, fuel int) answers {
	return answers{run.Run(p, fuel), run.Steps(p, fuel), run.Heap(p, fuel)}
}

// same tells whether answers are alike.
func (a answers) same(b answers) bool {
	return sameTrace(a.trace, b.trace) && a.steps == b.steps && sameHeap(a.heap, b.heap)
}

// copied is answers of their own memory.
func (a answers) copied() answers {
	a.trace.Events, a.heap = slices.Clone(a.trace.Events), sample.CopiedHeap(a.heap)
	return a
}

// few is programs for the rules.
func few() []api.Prog {
	return append(sample.Runs()[:80], wild()[:100]...)
}

// P10.1, and rules 5 and 6 of P1: what is handed in stays as it was, its spare room, too, and what stands there is not read.
func TestStays(t *testing.T) {
	for _, p := range few() {
		for _, fuel := range []int{0, 9, 50, 700} {
			want, x := ask(p, fuel), sample.RoomyProgram(p)
			before := sample.WholeProgram(x)
			if got := ask(x, fuel); !got.same(want) {
				t.Fatalf("%s answers %s; want %s", shown(p), shown(got), shown(want))
			}
			if !reflect.DeepEqual(sample.WholeProgram(x), before) {
				t.Fatalf("%s became %s", shown(before), shown(sample.WholeProgram(x)))
			}
		}
	}
}

// P10.1, and rule 6 of P1: a call hangs on its arguments alone, not on what was asked before.
func TestAgain(t *testing.T) {
	all := few()
	var first []answers
	for i, p := range all {
		first = append(first, ask(p, 100+i))
	}
	for i, p := range slices.Backward(all) {
		ask(p, 7)
		if again := ask(p, 100+i); !again.same(first[i]) {
			t.Fatalf("%s answers %s, then %s", shown(p), shown(first[i]), shown(again))
		}
	}
}

// P10.1, and rule 5 of P1: what was answered stays as it was, whatever becomes of what was handed in, and of other answers.
func TestAnswersStay(t *testing.T) {
	for _, p := range few() {
		x := sample.RoomyProgram(p)
		first, second := ask(x, 400), ask(x, 400)
		want := first.copied()
		sample.Wipe(x)
		clear(second.trace.Events[:cap(second.trace.Events)])
		spoil(t, second.heap)
		if !first.same(want) || !ask(p, 400).same(want) {
			t.Fatalf("%s answered %s, which became %s", shown(p), shown(want), shown(first))
		}
	}
}

// spoil writes into each list of a heap, and its spare room, and asks whether others became something else by that.
func spoil(t *testing.T, h api.Heap) {
	t.Helper()
	want := sample.CopiedHeap(h)
	fill := func(l []int) {
		l = l[:cap(l)]
		for i := range l {
			l[i] = 77
		}
	}
	for i := range h.Objs {
		fill(h.Objs[i].Refs)
		fill(want.Objs[i].Refs)
		if !sameHeap(h, want) {
			t.Fatalf("references of %d are others' memory: %s", i+1, shown(h))
		}
		fill(h.Objs[i].Ints)
		fill(want.Objs[i].Ints)
		if !sameHeap(h, want) {
			t.Fatalf("numbers of %d are others' memory: %s", i+1, shown(h))
		}
	}
	clear(h.Objs[:cap(h.Objs)])
}

// P10.1, and rule 4 of P1: lists without anything may be nil or empty.
func TestEmpty(t *testing.T) {
	bare := api.Prog{Funcs: []api.Func{{Blocks: []api.Block{{Code: []api.Ins{jump(1)}}, {Code: []api.Ins{jump(1)}}}}}}
	full := api.Prog{Funcs: []api.Func{{Kinds: []int{}, Base: []int{}, Blocks: []api.Block{{Code: []api.Ins{{Op: api.OpJump, N: 1, Args: []int{}}}}, {Code: []api.Ins{jump(1)}}}}}}
	for _, p := range []api.Prog{bare, full} {
		for _, fuel := range []int{-1, 0, 1, 2, 4000, 5000} {
			steps := min(max(fuel, 0), 4000)
			if got := ask(p, fuel); !got.same(answers{steps: steps}) {
				t.Errorf("with %d steps: %v", fuel, got)
			}
		}
	}
	for _, p := range few() {
		x := sample.RoomyProgram(p)
		for _, f := range x.Funcs {
			for _, b := range f.Blocks {
				for i := range b.Code {
					if len(b.Code[i].Args) == 0 {
						b.Code[i].Args = []int{}
					}
				}
			}
		}
		if !ask(x, 300).same(ask(p, 300)) {
			t.Errorf("%s isn't as with lists without anything", shown(p))
		}
	}
}

// P10.1, and rule 6 of P1: fuel may be any number.
func TestAnyFuel(t *testing.T) {
	for _, p := range few()[:40] {
		all, nothing := ask(p, 4000), answers{}
		for _, fuel := range []int{4000, 4001, 8000, 1 << 16, 1<<32 - 1, 1 << 32, 1<<32 + 1, math.MaxInt - 1, math.MaxInt} {
			if got := ask(p, fuel); !got.same(all) {
				t.Errorf("with %d steps: %s; want %s: %s", fuel, shown(got), shown(all), shown(p))
			}
		}
		for _, fuel := range []int{0, -1, -2, -4000, -4001, -1 << 32, math.MinInt + 1, math.MinInt} {
			if got := ask(p, fuel); !got.same(nothing) {
				t.Errorf("with %d steps: %s: %s", fuel, shown(got), shown(p))
			}
		}
	}
}

// Rule 1 of P1: calls end and don't panic, also at what may not be run, of which nothing else is promised.
func TestAnything(t *testing.T) {
	numbers := append(sample.Far(), 0, 1, 2, 3)
	for _, n := range numbers {
		for _, m := range numbers {
			for op := -1; op < 27; op++ {
				x := api.Ins{Op: op, D: n, A: m, B: n, N: n, M: m, Args: []int{n, m}}
				y := api.Ins{Op: op, D: m, A: n, N: m, M: n}
				z := api.Ins{Op: op}
				f := api.Func{Kinds: []int{n, m, 2}, Base: []int{m}, Params: m, Result: n, Blocks: []api.Block{{Code: []api.Ins{x}}, {}, {Code: []api.Ins{y, x}}}}
				g := api.Func{Kinds: []int{0, 1, 2}, Base: []int{-1, -1, 1}, Params: n, Blocks: []api.Block{{Code: []api.Ins{konst(0, 1), none(1), z, y, x}}, {Code: []api.Ins{z}}}}
				h := function([]api.Ins{konst(0, 1), z, jump(1)}, []api.Ins{y, answer(0)})
				for _, l := range [][]api.Func{{f, g, {}}, {g, f}, {h, f}, {h}} {
					ask(api.Prog{Funcs: l}, 50)
				}
			}
		}
	}
	for _, p := range []api.Prog{{}, {Funcs: []api.Func{}}, {Funcs: []api.Func{{}}}, {Funcs: []api.Func{{Blocks: []api.Block{{}}}}}, {Funcs: make([]api.Func, 9)}} {
		ask(p, 50)
	}
}

// Rule 1 of P1: calls end and don't panic at programs that may be, but may not be run.
func TestMayNotRun(t *testing.T) {
	count := 0
	for _, p := range sample.Programs() {
		if kind.Check(p) != api.OK {
			ask(p, 4000)
			count++
		}
	}
	if count < 100 {
		t.Errorf("%d samples may not be run", count)
	}
}

// Rule 1 of P1: calls end, of programs as great as one may be.
func TestGreat(t *testing.T) {
	great := line(konst(int0, 0))
	great.Funcs[0].Kinds, great.Funcs[0].Base = make([]int, 48), slices.Repeat([]int{-1}, 48)
	blocks := []api.Block{{Code: append(slices.Repeat([]api.Ins{konst(47, 1)}, 39), jump(1))}}
	for b := 1; b < 40; b++ {
		code := append(slices.Repeat([]api.Ins{calc(api.OpAdd, 47, 47, 47)}, 38), show(47), jump(b%39+1))
		blocks = append(blocks, api.Block{Code: code})
	}
	great.Funcs[0].Blocks = blocks
	great.Funcs = slices.Repeat(great.Funcs, 8)
	want := answers{steps: 4000}
	for n := 1; n <= 99; n++ {
		want.trace.Events = append(want.trace.Events, []int{1 << 38, 0}[min(n-1, 1)])
	}
	if got := ask(great, 4000); !got.same(want) {
		t.Errorf("it answers %s; want %s", shown(got), shown(want))
	}
}

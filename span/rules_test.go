package span_test

import (
	"math"
	"reflect"
	"slices"
	"testing"

	"portolan/api"
	"portolan/bitset"
	"portolan/sample"
	"portolan/span"
)

// few is functions for the rules.
func few() []api.Func {
	all := many()[:400]
	for _, x := range append(straight(), apart()...) {
		all = append(all, x.f)
	}
	return all
}

// answers is what all calls answer of a function.
type answers struct {
	line  []api.Place
	spans []api.Span
	calls []uint64
	meet  int
}

// asked makes each call of a function.
func asked(f api.Func) answers {
	a := answers{line: span.Line(f), spans: span.Spans(f), calls: span.Calls(f)}
	for _, x := range a.spans {
		for _, y := range a.spans {
			if span.Meet(x, y) {
				a.meet++
			}
		}
	}
	return a
}

// same tells whether answers are alike.
func (a answers) same(b answers) bool {
	return slices.Equal(a.line, b.line) && slices.Equal(a.spans, b.spans) && slices.Equal(a.calls, b.calls) && a.meet == b.meet
}

// copied is answers of their own memory.
func (a answers) copied() answers {
	return answers{slices.Clone(a.line), slices.Clone(a.spans), slices.Clone(a.calls), a.meet}
}

// spoil writes all over answers.
func (a answers) spoil() {
	sample.Spoil(a.line, api.Place{Block: 77})
	sample.Spoil(a.spans, api.Span{Var: 77})
	sample.Spoil(a.calls, 0x5555)
}

// P15.1, and rules 5 and 6 of P1: answers are new memory, and each call answers the same again.
func TestNewMemory(t *testing.T) {
	for _, f := range few() {
		first, second := asked(f), asked(f)
		want := first.copied()
		if !second.same(want) {
			t.Fatalf("%s answers %v, then %v", shown(f), want, second)
		}
		second.spoil()
		if !first.same(want) || !asked(f).same(want) {
			t.Fatalf("%s: answers share memory", shown(f))
		}
	}
}

// P15.1, and rule 5 of P1: what is handed in stays as it was, its spare room, too, and what stands there is not read.
func TestStays(t *testing.T) {
	for _, f := range few() {
		g := sample.Roomy(f)
		before, want := sample.Whole(g), asked(f)
		got := asked(g)
		if !got.same(want) {
			t.Errorf("%s answers %v; want %v", shown(f), got, want)
		}
		if !reflect.DeepEqual(sample.Whole(g), before) {
			t.Errorf("%s became %s", shown(before), shown(sample.Whole(g)))
		}
		got.spoil()
		if !reflect.DeepEqual(sample.Whole(g), before) {
			t.Errorf("%s: answers share memory with what was handed in", shown(f))
		}
		got = asked(g)
		sample.Wipe(api.Prog{Funcs: []api.Func{g}})
		if !got.same(want) {
			t.Errorf("%s: answers hang on what was handed in", shown(f))
		}
	}
}

// P15.1: sets are answered in one way, and have what spans of Call have.
func TestOneWay(t *testing.T) {
	for _, f := range few() {
		var l []int
		for _, s := range span.Spans(f) {
			if s.Call {
				l = append(l, s.Var)
			}
		}
		if s := span.Calls(f); !slices.Equal(s, bitset.Of(l...)) {
			t.Fatalf("%v are kept across calls; want %v: %s", s, l, shown(f))
		}
	}
}

// P15.1, and rule 4 of P1: lists without anything may be nil or empty.
func TestEmpty(t *testing.T) {
	for _, f := range few() {
		if !asked(sample.Bare(f)).same(asked(f)) {
			t.Errorf("%s isn't as with lists without anything", shown(f))
		}
	}
	for _, l := range [][]int{nil, {}} {
		f := api.Func{Kinds: l, Base: l, Blocks: []api.Block{{Code: []api.Ins{jump(1)}}, {Code: []api.Ins{{Op: api.OpPoll, Args: l}, jump(1)}}}}
		a := asked(f)
		if len(a.line) != 3 || len(a.spans) > 0 || len(a.calls) > 0 {
			t.Errorf("without variables there are %v", a)
		}
	}
}

// Rule 1 of P1: calls end and don't panic, also at functions that may not be, of which nothing else is promised.
func TestAnything(t *testing.T) {
	numbers := append(sample.Far(), 0, 1, 2, 3, 4095, 4096, math.MaxInt-1)
	for _, n := range numbers {
		for _, m := range numbers {
			for op := -1; op < 30; op++ {
				asked(sample.Odd(op, n, m))
			}
			span.Meet(api.Span{From: n, To: m}, api.Span{From: m, To: n})
		}
	}
	for _, f := range []api.Func{{}, {Blocks: []api.Block{}}, {Kinds: []int{2}, Blocks: make([]api.Block, 41)}} {
		if a := asked(f); len(a.line)+len(a.spans)+len(a.calls) > 0 {
			t.Errorf("of %s are answered %v", shown(f), a)
		}
	}
}

// Rule 1 of P1: calls end, of more blocks and instructions than there may be, too.
func TestMany(t *testing.T) {
	const n = 1 << 16
	for _, l := range []sample.Ends{sample.Chain(n), sample.Round(n), sample.Rungs(n), sample.Nest(n)} {
		if line := span.Line(l.Function()); len(line) < 2*n {
			t.Errorf("of %d blocks the line has %d places", n, len(line))
		}
	}
	for _, l := range []sample.Ends{sample.Chain(400), sample.Round(400), sample.Rungs(400), sample.Nest(400)} {
		asked(l.Function())
	}
	f := single(jump(0))
	f.Blocks[0].Code = slices.Insert(f.Blocks[0].Code[:8], 8, slices.Repeat([]api.Ins{{Op: api.OpLoadDer, D: 1, A: 5}}, n)...)
	f.Blocks[0].Code = append(f.Blocks[0].Code, answer(7))
	if l := span.Spans(f); len(l) != 8 || l[7] != (api.Span{Var: 7, From: 15, To: 2 * (8 + n)}) || l[5].To != 2*(7+n) {
		t.Errorf("of %d instructions the spans are %v", n, l)
	}
}

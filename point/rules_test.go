package point_test

import (
	"math"
	"reflect"
	"slices"
	"testing"

	"portolan/api"
	"portolan/code"
	"portolan/point"
	"portolan/sample"
)

// answers is what all calls answer of a program.
type answers struct {
	points  [][]api.Place
	numbers []int
	laid    api.Prog
	whole   api.Prog
	e       []api.Errno
}

// ask makes each call of a program, and of its functions.
func ask(p api.Prog) answers {
	var a answers
	for _, f := range p.Funcs {
		g, e := point.Lay(f)
		a.points = append(a.points, point.Points(f), point.Points(g))
		a.laid.Funcs, a.e = append(a.laid.Funcs, g), append(a.e, e)
		for b := range min(len(f.Blocks), 3) {
			a.numbers = append(a.numbers, point.Number(f, b, 0), point.Number(f, b, 1), point.Number(f, b, b))
		}
	}
	whole, e := point.Whole(p)
	a.whole, a.e = whole, append(a.e, e)
	return a
}

// same tells whether answers are alike.
func (a answers) same(b answers) bool {
	return slices.EqualFunc(a.points, b.points, slices.Equal) && slices.Equal(a.numbers, b.numbers) &&
		code.Same(a.laid, b.laid) && code.Same(a.whole, b.whole) && slices.Equal(a.e, b.e)
}

// copied is answers of their own memory.
func (a answers) copied() answers {
	return answers{sample.Copied(a.points), a.numbers, sample.RoomyProgram(a.laid), sample.RoomyProgram(a.whole), a.e}
}

// P14.1, and rules 5 and 6 of P1: what is handed in stays as it was, its spare room, too, and what stands there is not read.
func TestStays(t *testing.T) {
	for _, p := range few() {
		q := sample.RoomyProgram(p)
		before, want := sample.WholeProgram(q), ask(p)
		if got := ask(q); !got.same(want) {
			t.Fatalf("%s answers %s; want %s", shown(p), shown(got), shown(want))
		}
		if !reflect.DeepEqual(sample.WholeProgram(q), before) {
			t.Fatalf("%s became %s", shown(before), shown(sample.WholeProgram(q)))
		}
	}
}

// P14.1, and rules 5 and 6 of P1: answers are new memory, no two of their lists share any, and each call answers the same again.
func TestNewMemory(t *testing.T) {
	for _, p := range few() {
		q := sample.RoomyProgram(p)
		before, first, second := sample.WholeProgram(q), ask(q), ask(q)
		want := first.copied()
		if !second.same(want) {
			t.Fatalf("%s answers %s, then %s", shown(p), shown(want), shown(second))
		}
		if !sample.Apart(second.points, api.Place{Block: 77}) || !sample.Parted(second.laid) || !sample.Parted(second.whole) {
			t.Fatalf("of %s answers' lists share memory", shown(p))
		}
		if !first.same(want) || !reflect.DeepEqual(sample.WholeProgram(q), before) {
			t.Fatalf("of %s answers share memory with one another, or with what was handed in", shown(p))
		}
		sample.Wipe(q)
		if !first.same(want) || !ask(p).same(want) {
			t.Fatalf("of %s an answer hangs on what was handed in", shown(p))
		}
	}
}

// P14.1, and rule 4 of P1: lists without anything may be nil or empty.
func TestEmpty(t *testing.T) {
	for _, p := range few() {
		bare := api.Prog{Funcs: slices.Clone(p.Funcs)}
		for n, f := range p.Funcs {
			bare.Funcs[n] = sample.Bare(f)
		}
		if !ask(bare).same(ask(p)) {
			t.Errorf("%s isn't as with lists without anything", shown(p))
		}
	}
	for _, l := range [][]int{nil, {}} {
		f := api.Func{Kinds: l, Base: l, Blocks: []api.Block{{Code: []api.Ins{{Op: api.OpJump, N: 1, Args: l}}}, {Code: []api.Ins{{Op: api.OpJump, N: 1, Args: l}}}}}
		lays(t, f, polled(f, []int{1}), api.OK)
		whole(t, one(f), one(polled(f, []int{1})), api.OK)
		numbered(t, f)
	}
	whole(t, api.Prog{Funcs: []api.Func{}}, api.Prog{}, api.OK)
	for _, f := range []api.Func{{}, {Blocks: []api.Block{}}, {Blocks: []api.Block{{Code: []api.Ins{}}, {}}}} {
		numbered(t, f)
	}
}

// Rule 1 of P1: calls end and don't panic, also at functions that may not be. Of Points and Number, that is promised as of others.
func TestAnything(t *testing.T) {
	numbers := append(sample.Far(), 0, 1, 2, 3, math.MaxInt-1)
	for _, n := range numbers {
		for _, m := range numbers {
			for op := -1; op < 30; op++ {
				f := sample.Odd(op, n, m)
				ask(api.Prog{Funcs: []api.Func{f, {}, f}})
				numbered(t, f)
			}
		}
	}
	long := sample.Chain(3).Function()
	long.Blocks[1].Code = append(make([]api.Ins, 77), long.Blocks[1].Code...)
	for _, f := range []api.Func{long, {Blocks: make([]api.Block, 40)}, {Blocks: make([]api.Block, 41)}, ends{{0, 1}, {0, 1}}.Function(), sample.Polled(sample.Round(9).Function())} {
		ask(one(f))
		numbered(t, f)
	}
}

// Rule 1 of P1: calls end, however many blocks, instructions and functions there are.
func TestMany(t *testing.T) {
	const n = 1 << 16
	for _, l := range []ends{sample.Chain(n), sample.Round(n), sample.Rungs(n), sample.Nest(n)} {
		f := l.Function()
		point.Lay(f)
		point.Whole(one(f))
		if all := point.Points(f); len(all) != n/4*3 || point.Number(f, n-1, 0) != n/4*3-1 {
			t.Errorf("of %d blocks there are %d points", n, len(all))
		}
	}
	f := sample.Round(3).Function()
	f.Blocks[0].Code = append(slices.Repeat([]api.Ins{{Op: 19}}, n), f.Blocks[0].Code...)
	point.Lay(f)
	if all := point.Points(f); len(all) != n+2 || point.Number(f, 0, n-1) != n-1 || point.Number(f, 2, 0) != n+1 {
		t.Errorf("of %d instructions there are %d points", n, len(all))
	}
	if p, e := point.Whole(api.Prog{Funcs: slices.Repeat([]api.Func{sample.Round(3).Function()}, n)}); e != api.OK || len(p.Funcs) != n {
		t.Errorf("of %d functions %d are laid, %d", n, len(p.Funcs), e)
	}
}

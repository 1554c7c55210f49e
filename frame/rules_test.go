package frame_test

import (
	"math"
	"reflect"
	"slices"
	"testing"

	"portolan/api"
	"portolan/frame"
	"portolan/sample"
)

// few is functions for the rules.
func few(t *testing.T) []api.Func {
	all := append(many()[:400], laid(t, greatest()))
	for _, x := range append(plain(), rounds()...) {
		all = append(all, laid(t, x.f))
	}
	return all
}

// answers is what Lay answers of each number of registers.
type answers struct {
	frames []api.Frame
	errs   []api.Errno
}

// asked asks for a function's frames.
func asked(f api.Func) answers {
	var a answers
	for _, regs := range []int{2, 3, 5, 32, 33, 1, -1} {
		x, e := frame.Lay(f, regs)
		a.frames, a.errs = append(a.frames, x), append(a.errs, e)
	}
	return a
}

// same tells whether answers are alike.
func (a answers) same(b answers) bool {
	return slices.EqualFunc(a.frames, b.frames, same) && slices.Equal(a.errs, b.errs)
}

// copied is answers of their own memory.
func (a answers) copied() answers {
	a.frames, a.errs = slices.Clone(a.frames), slices.Clone(a.errs)
	for i, x := range a.frames {
		a.frames[i].Homes, a.frames[i].Entry = slices.Clone(x.Homes), slices.Clone(x.Entry)
	}
	return a
}

// spoil writes all over answers.
func (a answers) spoil() {
	for _, x := range a.frames {
		sample.Spoil(x.Homes, slot(77))
		sample.Spoil(x.Entry, move(slot(77), slot(77)))
	}
}

// P18.1, and rules 5 and 6 of P1: answers are new memory, and each call answers the same again.
func TestNewMemory(t *testing.T) {
	for _, f := range few(t) {
		first, second := asked(f), asked(f)
		want := first.copied()
		if !second.same(want) {
			t.Fatalf("%s answers %v, then %v", shown(f), want, second)
		}
		second.spoil()
		if !first.same(want) || !asked(f).same(want) {
			t.Fatalf("%s: answers share memory", shown(f))
		}
	}
}

// P18.1, and rule 5 of P1: what is handed in stays as it was, its spare room, too, and what stands there is not read.
func TestStays(t *testing.T) {
	for _, f := range few(t) {
		g := sample.Roomy(f)
		before, want := sample.Whole(g), asked(f)
		got := asked(g)
		if !got.same(want) {
			t.Errorf("%s answers %v; want %v", shown(f), got, want)
		}
		if !reflect.DeepEqual(sample.Whole(g), before) {
			t.Errorf("%s became %s", shown(before), shown(sample.Whole(g)))
		}
		got.spoil()
		if !reflect.DeepEqual(sample.Whole(g), before) {
			t.Errorf("%s: answers share memory with what was handed in", shown(f))
		}
		got = asked(g)
		sample.Wipe(api.Prog{Funcs: []api.Func{g}})
		if !got.same(want) {
			t.Errorf("%s: answers hang on what was handed in", shown(f))
		}
	}
}

// P18.1, and rule 5 of P1: of Spare and Right, a frame stays as it was, its spare room, too, and what stands there is not read.
func TestFrameStays(t *testing.T) {
	for _, f := range few(t) {
		x, _ := frame.Lay(f, 2)
		y := api.Frame{Homes: sample.Room(x.Homes, slot(500)), Slots: x.Slots, Entry: sample.Room(x.Entry, move(slot(500), slot(500)))}
		homes, entry := sample.Spare(y.Homes), sample.Spare(y.Entry)
		if frame.Spare(y) != frame.Spare(x) || !frame.Right(y) {
			t.Errorf("%v isn't as without spare room", x)
		}
		if !slices.Equal(sample.Spare(y.Homes), homes) || !slices.Equal(sample.Spare(y.Entry), entry) || y.Slots != x.Slots {
			t.Errorf("%v became %v", x, y)
		}
	}
}

// P18.1, and rule 4 of P1: lists without anything may be nil or empty.
func TestEmpty(t *testing.T) {
	for _, f := range few(t) {
		if !asked(sample.Bare(f)).same(asked(f)) {
			t.Errorf("%s isn't as with lists without anything", shown(f))
		}
	}
	for _, l := range [][]int{nil, {}} {
		f := api.Func{Kinds: l, Base: l, Blocks: []api.Block{{Code: []api.Ins{jump(1)}}, {Code: []api.Ins{{Op: api.OpPoll, Args: l}, jump(1)}}}}
		if x, e := frame.Lay(f, 2); e != api.OK || !same(x, api.Frame{Slots: 1}) {
			t.Errorf("without variables there are %v, %v", x, e)
		}
	}
	for _, homes := range [][]api.Loc{nil, {}} {
		for _, entry := range [][]api.Move{nil, {}} {
			x := api.Frame{Homes: homes, Slots: 1, Entry: entry}
			if !frame.Right(x) || frame.Spare(x) != slot(0) || frame.Right(api.Frame{Homes: homes, Entry: entry}) {
				t.Errorf("%v isn't right, or one without slots is", x)
			}
		}
	}
}

// Rule 1 of P1: calls end and don't panic, also at functions that may not be, of which nothing else is promised, and at any frames.
func TestAnything(t *testing.T) {
	numbers := append(sample.Far(), 0, 1, 2, 3, 4, 159, 160, 4095, 4096, math.MaxInt-1)
	for _, n := range numbers {
		for _, m := range numbers {
			for op := -1; op < 30; op++ {
				f := sample.Odd(op, n, m)
				asked(f)
				f.Kinds, f.Params = make([]int, 3), m
				asked(f)
			}
			x := api.Frame{Homes: []api.Loc{{Kind: n, N: m}}, Slots: m, Entry: []api.Move{move(api.Loc{Kind: m, N: n}, reg(m))}}
			frame.Spare(x)
			judged(t, x, right(x))
		}
	}
	for _, f := range []api.Func{{}, {Blocks: []api.Block{}}, {Kinds: []int{2}, Blocks: make([]api.Block, 41)}, ints(60, 60, greatest().Blocks[0].Code), ints(-1, 2, []api.Ins{answer(1)}), ints(2, 1, []api.Ins{ask(1), ask(5), answer(0)})} {
		asked(f)
	}
}

// Rule 1 of P1: calls end, of more blocks, instructions, variables and locations than there may be, too.
func TestMany(t *testing.T) {
	for _, l := range []sample.Ends{sample.Chain(400), sample.Round(400), sample.Rungs(400), sample.Nest(400)} {
		asked(l.Function())
	}
	asked(crowded(400))
	const n = 1 << 18
	f := ints(1, 1, append(slices.Repeat([]api.Ins{ask(0)}, n), answer(0)))
	if x, e := frame.Lay(f, 2); e != api.OK || !same(x, api.Frame{Homes: []api.Loc{reg(0)}, Slots: 2, Entry: []api.Move{move(reg(0), slot(0))}}) {
		t.Errorf("of %d instructions there are %v, %v", n, x, e)
	}
	x := api.Frame{Homes: slices.Repeat([]api.Loc{slot(4)}, n), Slots: 6, Entry: slices.Repeat([]api.Move{move(slot(5), reg(9))}, n)}
	judged(t, x, true)
	x.Entry[n-1].From = slot(6)
	judged(t, x, false)
}

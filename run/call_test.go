package run_test

import (
	"slices"
	"testing"

	"portolan/api"
)

// with is a program that has others behind its first function.
func with(p api.Prog, others ...api.Func) api.Prog {
	p.Funcs = append(slices.Clone(p.Funcs), others...)
	return p
}

// taking is a function of one block, whose first variables, of these kinds, are its arguments; behind them stand an Int and a Ref.
func taking(kinds []int, result int, l ...api.Ins) api.Func {
	own := append(slices.Clone(kinds), api.Int, api.Ref)
	return api.Func{Kinds: own, Base: slices.Repeat([]int{-1}, len(own)), Params: len(kinds), Result: result, Blocks: []api.Block{{Code: l}}}
}

// P10.1: the arguments' values, in order, are the first variables' of what is called; what it answers is D.
func TestArguments(t *testing.T) {
	begin := []api.Ins{konst(int0, 1), konst(int1, 2), konst(int2, 3), konst(int3, 4)}
	all := taking([]int{0, 0, 0, 0}, 0, show(0), show(1), show(2), show(3), answer(2))
	for _, x := range []struct {
		args []int
		want []int
	}{
		{[]int{0, 1, 2, 3}, []int{1, 2, 3, 4}}, {[]int{3, 2, 1, 0}, []int{4, 3, 2, 1}}, {[]int{2, 2, 0, 2}, []int{3, 3, 1, 3}}, {[]int{1, 0, 3, 0}, []int{2, 1, 4, 1}},
	} {
		for d := range 4 {
			after := []int{1, 2, 3, 4}
			after[d] = x.want[2]
			p := line(append(slices.Clone(begin), call(d, 1, x.args...), show(0), show(1), show(2), show(3))...)
			ran(t, with(p, all), 15, halts(after[0], append(slices.Clone(x.want), after...)...))
		}
	}
}

// P10.1: variables of a function that is called are its own, and each time they are anew; its caller's stay, but for D.
func TestFrames(t *testing.T) {
	own := taking([]int{0, 0}, 0, konst(0, 70), konst(1, 71), konst(2, 72), none(3), answer(2))
	ran(t, with(line(konst(int0, 1), konst(int1, 2), konst(int2, 3), object(ref0, 1, 1), call(int1, 1, int0, int2), show(int0), show(int1), show(int2), isNone(int3, ref0), show(int3)), own),
		16, halts(1, 1, 72, 3, 0))
	twice := taking([]int{0}, 0, calc(api.OpAdd, 0, 0, 0), answer(0))
	ran(t, with(line(konst(int0, 3), call(int1, 1, int0), call(int2, 1, int1), call(int0, 1, int0), show(int0), show(int1), show(int2)), twice), 14, halts(6, 6, 6, 12))
	bare := taking(nil, 0, konst(0, 5), answer(0))
	ran(t, with(line(call(int0, 1), show(int0)), bare), 5, halts(5, 5))
}

// P10.1: references are handed over, and answered: both lead to the same object.
func TestReferences(t *testing.T) {
	write := taking([]int{1, 0}, 1, store(0, 1, 1), object(3, 1, 2), link(3, 0, 0), answer(3))
	ran(t, with(line(konst(int0, 7), object(ref0, 1, 2), call(ref1, 1, ref0, int0), load(int1, ref0, 1), show(int1), ref(ref2, ref1, 0), alike(int0, ref2, ref0), show(int0), alike(int0, ref1, ref0), show(int0)), write),
		15, halts(0, 7, 1, 0))
	back := taking([]int{1}, 1, answer(0))
	ran(t, with(line(object(ref0, 0, 0), call(ref1, 1, ref0), alike(int0, ref0, ref1), show(int0), none(ref0), call(ref1, 1, ref0), isNone(int0, ref1), show(int0)), back), 11, halts(1, 1, 1))
	ran(t, with(line(object(ref0, 0, 0), call(ref0, 1, ref0), isNone(int0, ref0), show(int0)), back), 6, halts(0, 0))
}

// P10.1: the run goes on behind the call, in whichever block it stands; so does what was called itself.
func TestGoesOn(t *testing.T) {
	p := program([]api.Ins{konst(int0, 3), konst(int1, 1), jump(1)},
		[]api.Ins{call(int2, 1, int0), show(int2), calc(api.OpSub, int0, int0, int1), branch(int0, 1, 2)},
		[]api.Ins{call(int0, 2), show(int0), answer(int2)})
	square := taking([]int{0}, 0, calc(api.OpMul, 1, 0, 0), call(0, 2), show(0), answer(1))
	ran(t, with(p, square, taking(nil, 0, konst(0, -5), answer(0))), 38, halts(1, -5, 9, -5, 4, -5, 1, -5))
	// n! by calls of itself
	fact := taking([]int{0}, 0)
	fact.Kinds, fact.Base = []int{0, 0, 0}, []int{-1, -1, -1}
	fact.Blocks = []api.Block{
		{Code: []api.Ins{konst(1, 1), branch(0, 1, 2)}},
		{Code: []api.Ins{calc(api.OpSub, 1, 0, 1), call(2, 1, 1), calc(api.OpMul, 2, 0, 2), answer(2)}},
		{Code: []api.Ins{answer(1)}},
	}
	ran(t, with(line(konst(int1, 20), call(int0, 1, int1), show(int0)), fact), 127, halts(2432902008176640000, 2432902008176640000))
}

// P10.1: the first function may be called, too: it has no arguments, so it comes to that call again, till too many are under way.
func TestCallFirst(t *testing.T) {
	ran(t, program([]api.Ins{call(int0, 0), answer(int0)}), 60, traps(api.ErrDeep))
	p := line(konst(int0, 8), show(int0), call(int0, 1))
	ran(t, with(p, taking(nil, 0, call(0, 0), answer(0))), 30*4, traps(api.ErrDeep, slices.Repeat([]int{8}, 30)...))
}

// down is a program whose functions call on so far: as deep as there are functions under way, the first one counted.
func down(deep int) api.Prog {
	f := taking([]int{0}, 0)
	f.Kinds, f.Base = []int{0, 0}, []int{-1, -1}
	f.Blocks = []api.Block{
		{Code: []api.Ins{konst(1, 1), calc(api.OpSub, 0, 0, 1), branch(0, 1, 2)}},
		{Code: []api.Ins{call(1, 1, 0), answer(1)}},
		{Code: []api.Ins{konst(1, 6), answer(1)}},
	}
	return with(line(konst(int1, deep-1), call(int0, 1, int1), show(int0), call(int0, 1, int1), show(int0)), f)
}

// P10.1: 60 functions may be under way, again and again, but not one more.
func TestDeep(t *testing.T) {
	for _, deep := range []int{2, 3, 30, 58, 59, 60} {
		// Each function but the innermost one takes five steps, of which the last one is behind what it has called.
		once := (deep-2)*5 + 5
		ran(t, down(deep), 1+2*(once+2)+1, halts(6, 6, 6))
	}
	for _, deep := range []int{61, 62, 1000} {
		ran(t, down(deep), 2+59*4, traps(api.ErrDeep))
	}
}

// P10.1: what is told on the way down is told, though the run ends there.
func TestDeepTold(t *testing.T) {
	p := down(61)
	p.Funcs[1].Blocks[1].Code = []api.Ins{show(0), call(1, 1, 0), show(1), answer(1)}
	var events []int
	for n := 59; n >= 1; n-- {
		events = append(events, n)
	}
	ran(t, p, 2+59*5, traps(api.ErrDeep, events...))
}

// P10.1: calls that have ended count for nothing.
func TestCallsEnd(t *testing.T) {
	p := program([]api.Ins{konst(int0, 300), konst(int1, 1), jump(1)},
		[]api.Ins{call(int2, 1), calc(api.OpSub, int0, int0, int1), branch(int0, 1, 2)}, []api.Ins{answer(int2)})
	ran(t, with(p, taking(nil, 0, konst(0, 2), answer(0))), 3+300*5+1, halts(2))
}

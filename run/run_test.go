package run_test

import (
	"math"
	"slices"
	"testing"

	"portolan/api"
	"portolan/kind"
	"portolan/run"
)

// The variables of a function of these tests: Ints, Refs, two Ders of ref0 and one of ref1.
const (
	int0 = iota
	int1
	int2
	int3
	ref0
	ref1
	ref2
	der0
	also0
	der1
)

// function is one that has these variables.
func function(blocks ...[]api.Ins) api.Func {
	f := api.Func{Kinds: []int{0, 0, 0, 0, 1, 1, 1, 2, 2, 2}, Base: []int{-1, -1, -1, -1, -1, -1, -1, ref0, ref0, ref1}}
	for _, l := range blocks {
		f.Blocks = append(f.Blocks, api.Block{Code: l})
	}
	return f
}

// program is one whose first function has these variables and blocks.
func program(blocks ...[]api.Ins) api.Prog {
	return api.Prog{Funcs: []api.Func{function(blocks...)}}
}

// line is a program of one block, that answers what int0 has.
func line(l ...api.Ins) api.Prog {
	return program(append(slices.Clone(l), answer(int0)))
}

func konst(d, n int) api.Ins       { return api.Ins{Op: api.OpConst, D: d, N: n} }
func calc(op, d, a, b int) api.Ins { return api.Ins{Op: op, D: d, A: a, B: b} }
func copied(d, a int) api.Ins      { return api.Ins{Op: api.OpMove, D: d, A: a} }
func none(d int) api.Ins           { return api.Ins{Op: api.OpNull, D: d} }
func isNone(d, a int) api.Ins      { return api.Ins{Op: api.OpIsNull, D: d, A: a} }
func alike(d, a, b int) api.Ins    { return api.Ins{Op: api.OpSame, D: d, A: a, B: b} }
func object(d, n, m int) api.Ins   { return api.Ins{Op: api.OpAlloc, D: d, N: n, M: m} }
func load(d, a, n int) api.Ins     { return api.Ins{Op: api.OpLoadInt, D: d, A: a, N: n} }
func store(a, n, b int) api.Ins    { return api.Ins{Op: api.OpStoreInt, A: a, N: n, B: b} }
func ref(d, a, n int) api.Ins      { return api.Ins{Op: api.OpLoadRef, D: d, A: a, N: n} }
func link(a, n, b int) api.Ins     { return api.Ins{Op: api.OpStoreRef, A: a, N: n, B: b} }
func derive(d, a, n int) api.Ins   { return api.Ins{Op: api.OpDerive, D: d, A: a, N: n} }
func shift(d, a, n int) api.Ins    { return api.Ins{Op: api.OpShift, D: d, A: a, N: n} }
func loadAt(d, a int) api.Ins      { return api.Ins{Op: api.OpLoadDer, D: d, A: a} }
func storeAt(a, b int) api.Ins     { return api.Ins{Op: api.OpStoreDer, A: a, B: b} }
func show(a int) api.Ins           { return api.Ins{Op: api.OpPrint, A: a} }
func jump(n int) api.Ins           { return api.Ins{Op: api.OpJump, N: n} }
func branch(a, n, m int) api.Ins   { return api.Ins{Op: api.OpBranch, A: a, N: n, M: m} }
func answer(a int) api.Ins         { return api.Ins{Op: api.OpReturn, A: a} }
func call(d, n int, args ...int) api.Ins {
	return api.Ins{Op: api.OpCall, D: d, N: n, Args: args}
}

// halts, traps and goes are traces: of a run that halts, of one that an error ends, of one that more steps would follow.
func halts(value int, events ...int) api.Trace {
	return api.Trace{Events: events, End: api.EndHalt, Value: value}
}
func traps(e api.Errno, events ...int) api.Trace {
	return api.Trace{Events: events, End: api.EndTrap, Code: e}
}
func goes(events ...int) api.Trace { return api.Trace{Events: events} }

// sameTrace tells whether two traces are alike.
func sameTrace(a, b api.Trace) bool {
	return slices.Equal(a.Events, b.Events) && a.End == b.End && a.Value == b.Value && a.Code == b.Code
}

// ran asks whether a run ends so, behind so many steps: with as many, and with any more; and goes on with one less.
func ran(t *testing.T, p api.Prog, steps int, want api.Trace) {
	t.Helper()
	if e := kind.Check(p); e != api.OK {
		t.Fatalf("it may not be run: %d", e)
	}
	for _, fuel := range []int{steps, steps + 1, steps + 9, 4000, 4001, math.MaxInt} {
		if got := run.Run(p, fuel); !sameTrace(got, want) {
			t.Errorf("with %d steps: %v, %d; want %v, %d", fuel, got, got.Code, want, want.Code)
		}
		if n := run.Steps(p, fuel); n != steps {
			t.Errorf("with %d steps it took %d; want %d", fuel, n, steps)
		}
	}
	if got := run.Run(p, steps-1); got.End != api.EndFuel || got.Value != 0 || got.Code != api.OK {
		t.Errorf("with %d steps: %v", steps-1, got)
	}
	if n := run.Steps(p, steps-1); n != steps-1 {
		t.Errorf("with %d steps it took %d", steps-1, n)
	}
}

// shows asks whether a program of one block, whose instructions are done one behind the other, tells these, and halts with the last one.
func shows(t *testing.T, l []api.Ins, events ...int) {
	t.Helper()
	p := line(l...)
	ran(t, p, len(p.Funcs[0].Blocks[0].Code), halts(events[len(events)-1], events...))
}

// P10.1: the example of the chapter.
func TestExample(t *testing.T) {
	p := api.Prog{Funcs: []api.Func{{Kinds: []int{0}, Base: []int{-1}, Blocks: []api.Block{{Code: []api.Ins{konst(0, 5), show(0), answer(0)}}}}}}
	ran(t, p, 3, halts(5, 5))
	for fuel, want := range map[int]api.Trace{math.MinInt: goes(), -1: goes(), 0: goes(), 1: goes(), 2: goes(5), 3: halts(5, 5)} {
		if got := run.Run(p, fuel); !sameTrace(got, want) || run.Steps(p, fuel) != max(fuel, 0) {
			t.Errorf("with %d steps: %v, behind %d", fuel, got, run.Steps(p, fuel))
		}
	}
}

// number sets v to any number of 64 bits; int3 is lost.
func number(v, n int) []api.Ins {
	return []api.Ins{
		konst(v, n>>33), konst(int3, 1<<31), calc(api.OpMul, v, v, int3),
		konst(int3, n>>2&(1<<31-1)), calc(api.OpAdd, v, v, int3),
		konst(int3, 4), calc(api.OpMul, v, v, int3), konst(int3, n&3), calc(api.OpAdd, v, v, int3),
	}
}

// P10.1: of what makes numbers of numbers, small ones, and such as go round.
func TestNumbers(t *testing.T) {
	const most, least = math.MaxInt64, math.MinInt64
	for _, x := range []struct{ op, a, b, want int }{
		{api.OpAdd, 2, 3, 5}, {api.OpAdd, -2, 2, 0}, {api.OpAdd, 1 << 31, 1 << 31, 1 << 32}, {api.OpAdd, most, 1, least},
		{api.OpAdd, least, -1, most}, {api.OpAdd, most, most, -2}, {api.OpAdd, least, least, 0},
		{api.OpSub, 2, 3, -1}, {api.OpSub, 3, 2, 1}, {api.OpSub, -1 << 31, 1 << 31, -1 << 32}, {api.OpSub, least, 1, most},
		{api.OpSub, most, -1, least}, {api.OpSub, 0, least, least}, {api.OpSub, least, least, 0},
		{api.OpMul, 2, 3, 6}, {api.OpMul, -3, 7, -21}, {api.OpMul, -3, -7, 21}, {api.OpMul, 0, least, 0}, {api.OpMul, 1 << 32, 1 << 32, 0},
		{api.OpMul, 1<<32 + 1, 1<<32 + 1, 1<<33 + 1}, {api.OpMul, most, most, 1}, {api.OpMul, least, -1, least}, {api.OpMul, most, 2, -2},
		{api.OpLess, 2, 3, 1}, {api.OpLess, 3, 2, 0}, {api.OpLess, 3, 3, 0}, {api.OpLess, -1, 0, 1}, {api.OpLess, 0, -1, 0},
		{api.OpLess, least, most, 1}, {api.OpLess, most, least, 0}, {api.OpLess, least, 1, 1}, {api.OpLess, 1, least, 0},
		{api.OpLess, 1 << 32, 1, 0}, {api.OpLess, most - 1, most, 1}, {api.OpLess, least, least, 0},
	} {
		given := append(number(int1, x.a), number(int2, x.b)...)
		shows(t, append(given, show(int1), show(int2), calc(x.op, int0, int1, int2), show(int1), show(int2), show(int0)), x.a, x.b, x.a, x.b, x.want)
		shows(t, append(given, calc(x.op, int1, int1, int2), show(int1), copied(int0, int1), show(int2), show(int0)), x.want, x.b, x.want)
		shows(t, append(given, calc(x.op, int2, int1, int2), show(int1), show(int2), copied(int0, int2), show(int0)), x.a, x.want, x.want)
		if x.a == x.b {
			shows(t, append(given, calc(x.op, int0, int2, int2), show(int0)), x.want)
			shows(t, append(given, calc(x.op, int1, int1, int1), copied(int0, int1), show(int0)), x.want)
		}
	}
}

// P10.1: of what sets a number, or copies it: the least and the greatest one; later the copy stays.
func TestConst(t *testing.T) {
	for _, n := range []int{0, 1, -1, 5, 1 << 31, -1 << 31, 1<<31 - 1} {
		shows(t, []api.Ins{konst(int0, n), show(int0)}, n)
		shows(t, []api.Ins{konst(int1, n), copied(int0, int1), konst(int1, 77), show(int1), show(int0)}, 77, n)
		shows(t, []api.Ins{konst(int0, n), copied(int0, int0), show(int0)}, n)
		shows(t, []api.Ins{konst(int0, 3), konst(int0, n), show(int0)}, n)
	}
}

// P10.1: of what asks of references: none, objects, and which ones are the same.
func TestRefs(t *testing.T) {
	two := []api.Ins{object(ref0, 1, 1), object(ref1, 1, 1), none(ref2)}
	for _, x := range []struct {
		code []api.Ins
		want int
	}{
		{[]api.Ins{isNone(int0, ref0)}, 0}, {[]api.Ins{isNone(int0, ref1)}, 0}, {[]api.Ins{isNone(int0, ref2)}, 1},
		{[]api.Ins{none(ref0), isNone(int0, ref0)}, 1}, {[]api.Ins{copied(ref2, ref0), isNone(int0, ref2)}, 0},
		{[]api.Ins{copied(ref0, ref2), isNone(int0, ref0)}, 1}, {[]api.Ins{object(ref2, 0, 0), isNone(int0, ref2)}, 0},
		{[]api.Ins{ref(ref0, ref0, 0), isNone(int0, ref0)}, 1}, {[]api.Ins{link(ref0, 0, ref1), ref(ref2, ref0, 0), isNone(int0, ref2)}, 0},
		{[]api.Ins{alike(int0, ref0, ref0)}, 1}, {[]api.Ins{alike(int0, ref0, ref1)}, 0}, {[]api.Ins{alike(int0, ref1, ref0)}, 0},
		{[]api.Ins{alike(int0, ref2, ref2)}, 1}, {[]api.Ins{alike(int0, ref2, ref0)}, 0}, {[]api.Ins{alike(int0, ref0, ref2)}, 0},
		{[]api.Ins{none(ref0), alike(int0, ref2, ref0)}, 1}, {[]api.Ins{copied(ref2, ref1), alike(int0, ref1, ref2)}, 1},
		{[]api.Ins{copied(ref2, ref1), object(ref1, 1, 1), alike(int0, ref1, ref2)}, 0},
		{[]api.Ins{link(ref0, 0, ref1), ref(ref2, ref0, 0), alike(int0, ref1, ref2)}, 1},
		{[]api.Ins{link(ref0, 0, ref0), ref(ref2, ref0, 0), alike(int0, ref0, ref2)}, 1},
		{[]api.Ins{link(ref0, 0, ref1), none(ref1), ref(ref2, ref0, 0), isNone(int0, ref2)}, 0},
		{[]api.Ins{link(ref0, 0, ref1), link(ref0, 0, ref2), ref(ref2, ref0, 0), isNone(int0, ref2)}, 1},
	} {
		shows(t, slices.Concat(two, x.code, []api.Ins{show(int0)}), x.want)
	}
}

// P10.1: of what asks for fields, numbers and references beside one another, of two objects.
func TestFields(t *testing.T) {
	two := []api.Ins{konst(int0, 7), konst(int1, -8), object(ref0, 2, 2), object(ref1, 1, 3)}
	for _, x := range []struct {
		code []api.Ins
		want []int
	}{
		{[]api.Ins{load(int0, ref0, 0), show(int0), load(int0, ref0, 1), show(int0)}, []int{0, 0}},
		{[]api.Ins{store(ref0, 0, int0), store(ref0, 1, int1), load(int2, ref0, 0), show(int2), load(int0, ref0, 1), show(int0)}, []int{7, -8}},
		{[]api.Ins{store(ref1, 2, int0), load(int2, ref0, 0), show(int2), load(int2, ref1, 0), show(int2), load(int0, ref1, 2), show(int0)}, []int{0, 0, 7}},
		{[]api.Ins{store(ref0, 1, int0), copied(ref1, ref0), store(ref1, 1, int1), load(int0, ref0, 1), show(int0)}, []int{-8}},
		{[]api.Ins{store(ref0, 1, int0), konst(int0, 9), show(int0), load(int0, ref0, 1), show(int0)}, []int{9, 7}},
		{[]api.Ins{link(ref0, 1, ref1), store(ref1, 1, int1), ref(ref2, ref0, 1), load(int0, ref2, 1), show(int0)}, []int{-8}},
		{[]api.Ins{link(ref0, 0, ref1), link(ref0, 1, ref0), ref(ref2, ref0, 0), store(ref2, 2, int0), ref(ref0, ref0, 1), ref(ref0, ref0, 0), load(int0, ref0, 2), show(int0)}, []int{7}},
	} {
		shows(t, slices.Concat(two, x.code), x.want...)
	}
}

// P10.1: of derived pointers, places within an object's numbers, and beside them as long as nobody asks there.
func TestDers(t *testing.T) {
	begin := []api.Ins{konst(int0, 5), konst(int1, 6), konst(int2, 7), object(ref0, 1, 3), store(ref0, 0, int0), store(ref0, 1, int1), store(ref0, 2, int2), object(ref1, 2, 1)}
	for _, x := range []struct {
		code []api.Ins
		want []int
	}{
		{[]api.Ins{derive(der0, ref0, 0), loadAt(int0, der0), show(int0)}, []int{5}},
		{[]api.Ins{derive(der0, ref0, 2), loadAt(int0, der0), show(int0)}, []int{7}},
		{[]api.Ins{derive(der0, ref0, 2), shift(also0, der0, -1), loadAt(int3, also0), show(int3), loadAt(int0, der0), show(int0)}, []int{6, 7}},
		{[]api.Ins{derive(der0, ref0, 0), shift(der0, der0, 2), loadAt(int0, der0), show(int0)}, []int{7}},
		{[]api.Ins{derive(der0, ref0, 1), shift(der0, der0, 0), loadAt(int0, der0), show(int0)}, []int{6}},
		{[]api.Ins{derive(der0, ref0, 7), shift(der0, der0, 8), shift(der0, der0, -8), shift(der0, der0, -7), loadAt(int0, der0), show(int0)}, []int{5}},
		{[]api.Ins{derive(der0, ref0, 0), shift(der0, der0, -8), shift(also0, der0, 8), shift(also0, also0, 1), loadAt(int0, also0), show(int0)}, []int{6}},
		{[]api.Ins{derive(der0, ref0, 1), storeAt(der0, int2), load(int3, ref0, 0), show(int3), load(int0, ref0, 1), show(int0)}, []int{5, 7}},
		{[]api.Ins{derive(der0, ref0, 1), store(ref0, 1, int0), loadAt(int0, der0), show(int0)}, []int{5}},
		{[]api.Ins{derive(der1, ref1, 0), storeAt(der1, int2), derive(der0, ref0, 0), loadAt(int3, der0), show(int3), loadAt(int0, der1), show(int0)}, []int{5, 7}},
		{[]api.Ins{copied(ref0, ref1), derive(der0, ref0, 0), storeAt(der0, int2), load(int0, ref1, 0), show(int0)}, []int{7}},
		{[]api.Ins{derive(der0, ref0, 2), copied(ref2, ref0), store(ref2, 2, int1), loadAt(int0, der0), show(int0)}, []int{6}},
		{[]api.Ins{derive(der1, ref1, 7), copied(ref1, ref0), derive(der1, ref1, 0), loadAt(int0, der1), show(int0)}, []int{5}},
	} {
		shows(t, slices.Concat(begin, x.code), x.want...)
	}
}

// P10.1: numbers of 64 bits are told, stored, loaded, handed over and answered as they are.
func TestGreatNumbers(t *testing.T) {
	for _, n := range []int{math.MaxInt, math.MinInt, 1 << 32, -1 << 32, 1<<31 + 1, -1<<31 - 1, 1<<53 + 1, 0x123456789abcdef} {
		begin := append(number(int1, n), object(ref0, 1, 2), store(ref0, 1, int1), derive(der0, ref0, 0), storeAt(der0, int1), konst(int1, 0))
		shows(t, append(begin, load(int0, ref0, 1), show(int0), copied(int1, int0), show(int1), loadAt(int0, der0), show(int0)), n, n, n)
		same := api.Func{Kinds: []int{0}, Base: []int{-1}, Params: 1, Blocks: []api.Block{{Code: []api.Ins{show(0), answer(0)}}}}
		p := line(append(number(int1, n), call(int0, 1, int1))...)
		p.Funcs = append(p.Funcs, same)
		ran(t, p, 13, halts(n, n))
	}
}

// P10.1: a variable 0 of any kind stays out of instructions that don't name it.
func TestFirstVariable(t *testing.T) {
	const obj, num, other, tell, place = 0, 1, 2, 3, 4
	for _, kinds := range [][]int{{1, 0, 1, 0, 2}, {2, 0, 1, 0, 1}} {
		f := api.Func{Kinds: kinds, Base: []int{-1, -1, -1, -1, -1}}
		ref0, der0 := obj, place
		if kinds[0] == api.Der {
			ref0, der0 = place, obj
		}
		f.Base[der0] = ref0
		f.Blocks = []api.Block{{Code: []api.Ins{
			object(ref0, 1, 2), derive(der0, ref0, 1), konst(num, 9), store(ref0, 1, num),
			none(other), isNone(tell, other), show(tell), konst(tell, 4), show(tell), object(other, 0, 1), load(num, other, 0), show(num),
			alike(tell, other, ref0), show(tell), copied(other, ref0), alike(tell, other, ref0), show(tell), loadAt(num, der0), show(num),
			branch(num, 1, 2),
		}}, {Code: []api.Ins{answer(num)}}, {Code: []api.Ins{answer(tell)}}}
		ran(t, api.Prog{Funcs: []api.Func{f}}, 21, halts(9, 1, 4, 0, 0, 1, 9))
	}
}

package frame_test

import (
	"math"
	"slices"
	"testing"

	"portolan/api"
	"portolan/frame"
	"portolan/kind"
	"portolan/point"
	"portolan/sample"
)

func reg(n int) api.Loc { return api.Loc{Kind: api.LocReg, N: n} }

func slot(n int) api.Loc { return api.Loc{Kind: api.LocSlot, N: n} }

func move(to, from api.Loc) api.Move { return api.Move{To: to, From: from} }

// set, ask, call, add, jump, branch and answer are instructions.
func set(d int) api.Ins          { return api.Ins{Op: api.OpConst, D: d} }
func ask(a int) api.Ins          { return api.Ins{Op: api.OpPrint, A: a} }
func call(d int) api.Ins         { return api.Ins{Op: api.OpCall, D: d} }
func add(d, a, b int) api.Ins    { return api.Ins{Op: api.OpAdd, D: d, A: a, B: b} }
func jump(n int) api.Ins         { return api.Ins{Op: api.OpJump, N: n} }
func branch(a, n, m int) api.Ins { return api.Ins{Op: api.OpBranch, A: a, N: n, M: m} }
func answer(a int) api.Ins       { return api.Ins{Op: api.OpReturn, A: a} }

// ints is a function of so many Ints, the first of which are its arguments, and of these blocks.
func ints(params, count int, blocks ...[]api.Ins) api.Func {
	f := api.Func{Kinds: make([]int, count), Base: slices.Repeat([]int{-1}, count), Params: params}
	for _, l := range blocks {
		f.Blocks = append(f.Blocks, api.Block{Code: l})
	}
	return f
}

// laid is a function as layer 14 lays it; what it calls is a function without arguments.
func laid(t *testing.T, f api.Func) api.Func {
	t.Helper()
	if e := kind.Check(api.Prog{Funcs: []api.Func{ints(0, 1, []api.Ins{set(0), answer(0)}), f}}); e != api.OK {
		t.Fatalf("it may not be run, %v: %s", e, shown(f))
	}
	f, e := point.Lay(f)
	if e != api.OK {
		t.Fatalf("it isn't laid, %v: %s", e, shown(f))
	}
	return f
}

// written is a function, how many registers there are, and the frame.
type written struct {
	name string
	f    api.Func
	regs int
	want api.Frame
}

// plain is functions whose arguments come home without going round, or that have none.
func plain() []written {
	var none api.Loc
	ders := ints(1, 3, []api.Ins{{Op: api.OpDerive, D: 1}, call(2), {Op: api.OpLoadDer, D: 2, A: 1}, answer(2)})
	ders.Kinds, ders.Base = []int{1, 2, 0}, []int{-1, 0, -1}
	three := ints(0, 3, []api.Ins{set(0), set(1), set(2), ask(0), ask(1), answer(2)})
	return []written{
		{"it answers its argument, as the chapter has it", ints(1, 1, []api.Ins{answer(0)}), 2,
			api.Frame{Homes: []api.Loc{reg(0)}, Slots: 2, Entry: []api.Move{move(reg(0), slot(0))}}},
		{"no variables", ints(0, 0, []api.Ins{jump(1)}, []api.Ins{jump(1)}), 2,
			api.Frame{Slots: 1}},
		{"a variable that is nowhere", ints(0, 3, []api.Ins{set(1), answer(1)}), 2,
			api.Frame{Homes: []api.Loc{none, reg(0), none}, Slots: 1}},
		{"arguments that nobody asks for have slots, and no homes", ints(3, 4, []api.Ins{set(3), answer(3)}), 2,
			api.Frame{Homes: []api.Loc{none, none, none, reg(0)}, Slots: 4}},
		{"an argument that is set first isn't moved", ints(2, 2, []api.Ins{set(1), ask(1), answer(0)}), 2,
			api.Frame{Homes: []api.Loc{reg(0), reg(1)}, Slots: 3, Entry: []api.Move{move(reg(0), slot(0))}}},
		{"and may share another one's home", ints(2, 2, []api.Ins{ask(1), set(0), answer(0)}), 2,
			api.Frame{Homes: []api.Loc{reg(0), reg(0)}, Slots: 3, Entry: []api.Move{move(reg(0), slot(1))}}},
		{"an argument whose slot is its home stays", ints(1, 2, []api.Ins{call(1), add(1, 0, 1), answer(1)}), 2,
			api.Frame{Homes: []api.Loc{slot(0), reg(0)}, Slots: 2}},
		{"an argument goes to another one's slot", ints(2, 3, []api.Ins{call(2), answer(1)}), 2,
			api.Frame{Homes: []api.Loc{none, slot(0), reg(0)}, Slots: 3, Entry: []api.Move{move(slot(0), slot(1))}}},
		{"across a call on a way round", ints(2, 3, []api.Ins{jump(1)}, []api.Ins{call(2), branch(2, 1, 2)}, []api.Ins{answer(1)}), 32,
			api.Frame{Homes: []api.Loc{none, slot(0), reg(0)}, Slots: 3, Entry: []api.Move{move(slot(0), slot(1))}}},
		{"an argument that is asked for on one of two ways", ints(2, 2, []api.Ins{branch(0, 1, 2)}, []api.Ins{answer(1)}, []api.Ins{answer(0)}), 2,
			api.Frame{Homes: []api.Loc{reg(0), reg(1)}, Slots: 3, Entry: []api.Move{move(reg(0), slot(0)), move(reg(1), slot(1))}}},
		{"blocks that aren't reached don't count", ints(1, 3, []api.Ins{answer(0)}, []api.Ins{call(1), call(2), ask(1), answer(0)}), 2,
			api.Frame{Homes: []api.Loc{reg(0), none, none}, Slots: 2, Entry: []api.Move{move(reg(0), slot(0))}}},
		{"a base and its Der", ders, 2,
			api.Frame{Homes: []api.Loc{slot(0), slot(1), reg(0)}, Slots: 3}},
		{"homes need more slots than the arguments", ints(1, 5, []api.Ins{set(1), set(2), set(3), call(4), ask(1), ask(2), ask(3), answer(4)}), 32,
			api.Frame{Homes: []api.Loc{none, slot(0), slot(1), slot(2), reg(0)}, Slots: 4}},
		{"one register too few", three, 2,
			api.Frame{Homes: []api.Loc{reg(0), reg(1), slot(0)}, Slots: 2}},
		{"just as many registers", three, 3,
			api.Frame{Homes: []api.Loc{reg(0), reg(1), reg(2)}, Slots: 1}},
		{"each slot is left ahead of being taken",
			ints(4, 7, []api.Ins{set(4), set(5), add(4, 4, 5), ask(2), ask(1), ask(0), call(6), add(6, 6, 3), answer(6)}), 3,
			api.Frame{Homes: []api.Loc{slot(1), slot(2), reg(2), slot(0), reg(0), reg(1), reg(0)}, Slots: 5, Entry: []api.Move{
				move(reg(2), slot(2)), move(slot(2), slot(1)), move(slot(1), slot(0)), move(slot(0), slot(3))}}},
	}
}

// rounds is functions whose arguments go round by way of the last slot.
func rounds() []written {
	return []written{
		{"two exchange their slots",
			ints(4, 4, []api.Ins{ask(3), ask(2), ask(0), answer(1)}), 2,
			api.Frame{Homes: []api.Loc{slot(1), slot(0), reg(1), reg(0)}, Slots: 5, Entry: []api.Move{
				move(reg(1), slot(2)), move(reg(0), slot(3)), move(slot(4), slot(1)), move(slot(1), slot(0)), move(slot(0), slot(4))}}},
		{"three go round",
			ints(4, 7, []api.Ins{ask(3), set(4), set(5), add(4, 4, 5), ask(1), ask(0), call(6), add(6, 6, 2), answer(6)}), 2,
			api.Frame{Homes: []api.Loc{slot(1), slot(2), slot(0), reg(0), reg(0), reg(1), reg(0)}, Slots: 5, Entry: []api.Move{
				move(reg(0), slot(3)), move(slot(4), slot(1)), move(slot(1), slot(0)), move(slot(0), slot(2)), move(slot(2), slot(4))}}},
		{"four go round",
			ints(4, 7, []api.Ins{set(4), set(5), add(4, 4, 5), ask(0), ask(1), call(6), add(6, 6, 2), add(6, 6, 3), answer(6)}), 2,
			api.Frame{Homes: []api.Loc{slot(3), slot(2), slot(0), slot(1), reg(1), reg(0), reg(0)}, Slots: 5, Entry: []api.Move{
				move(slot(4), slot(3)), move(slot(3), slot(0)), move(slot(0), slot(2)), move(slot(2), slot(1)), move(slot(1), slot(4))}}},
		{"two and two exchange their slots",
			ints(4, 7, []api.Ins{set(4), set(5), add(4, 4, 5), ask(1), ask(0), call(6), add(6, 6, 2), add(6, 6, 3), answer(6)}), 2,
			api.Frame{Homes: []api.Loc{slot(2), slot(3), slot(0), slot(1), reg(0), reg(1), reg(0)}, Slots: 5, Entry: []api.Move{
				move(slot(4), slot(2)), move(slot(2), slot(0)), move(slot(0), slot(4)), move(slot(4), slot(3)), move(slot(3), slot(1)), move(slot(1), slot(4))}}},
		{"more slots than arguments: the last one of all is spare",
			ints(4, 10, []api.Ins{ask(3), ask(2), ask(0), ask(1), set(4), set(5), set(6), set(7), set(8), call(9), ask(4), ask(5), ask(6), ask(7), ask(8), answer(9)}), 2,
			api.Frame{Homes: []api.Loc{slot(1), slot(0), reg(1), reg(0), slot(0), slot(1), slot(2), slot(3), slot(4), reg(0)}, Slots: 6, Entry: []api.Move{
				move(reg(1), slot(2)), move(reg(0), slot(3)), move(slot(5), slot(1)), move(slot(1), slot(0)), move(slot(0), slot(5))}}},
	}
}

// P18.1, P18.2 and P18.3: of Lay, Spare and Right, frames that are written out.
func TestWrittenOut(t *testing.T) {
	for _, x := range append(plain(), rounds()...) {
		f := laid(t, x.f)
		for range 9 { // as many times as a map's order could be another one
			got, e := frame.Lay(f, x.regs)
			if e != api.OK || !same(got, x.want) {
				t.Fatalf("%s: %v, %v; want %v", x.name, got, e, x.want)
			}
		}
		if s := frame.Spare(x.want); s != slot(x.want.Slots-1) {
			t.Errorf("%s: %v is spare", x.name, s)
		}
		if !frame.Right(x.want) {
			t.Errorf("%s: it isn't right", x.name)
		}
		promised(t, sets(f), x.want)
	}
}

// same tells whether frames are alike.
func same(a, b api.Frame) bool {
	return slices.Equal(a.Homes, b.Homes) && a.Slots == b.Slots && slices.Equal(a.Entry, b.Entry)
}

// crowded is a function of so many Ints, which are set one behind the other, then asked for in that order.
func crowded(count int) api.Func {
	var first, second []api.Ins
	for v := range count {
		first, second = append(first, set(v)), append(second, ask(v))
	}
	return ints(0, count, append(first, jump(1)), append(second, answer(count-1)))
}

// P18.1: of Lay, as many variables at once as there are registers, more, and less: those that are asked for last go to slots.
func TestCrowded(t *testing.T) {
	for regs := api.MinRegs; regs <= api.MaxRegs; regs++ {
		for count := 1; count < api.MaxCode; count++ {
			f := laid(t, crowded(count))
			x, e := frame.Lay(f, regs)
			want := api.Frame{Slots: max(count-regs, 0) + 1}
			for v := range count {
				if v < regs {
					want.Homes = append(want.Homes, reg(v))
				} else {
					want.Homes = append(want.Homes, slot(v-regs))
				}
			}
			if e != api.OK || !same(x, want) {
				t.Fatalf("%d of %d registers: %v, %v; want %v", count, regs, x, e, want)
			}
		}
	}
}

// greatest is a function of as many variables as there may be, each of which is kept across a call.
func greatest() api.Func {
	f := ints(0, api.MaxVars)
	var code []api.Ins
	put := func(l ...api.Ins) {
		for _, x := range l {
			if code = append(code, x); len(code) == api.MaxCode-1 {
				f.Blocks = append(f.Blocks, api.Block{Code: append(code, jump(len(f.Blocks)+1))})
				code = nil
			}
		}
	}
	for v := range api.MaxVars {
		put(set(v))
	}
	put(call(47), ask(0), call(0))
	for v := range api.MaxVars {
		put(ask(v))
	}
	f.Blocks = append(f.Blocks, api.Block{Code: append(code, answer(0))})
	return f
}

// P18.1: of Lay, as many slots as any function may need.
func TestGreatest(t *testing.T) {
	f := laid(t, greatest())
	var want api.Frame
	for v := range api.MaxVars {
		want.Homes = append(want.Homes, slot(v))
	}
	want.Slots = api.MaxVars + 1
	for _, regs := range []int{2, 3, 31, 32} {
		if x, e := frame.Lay(f, regs); e != api.OK || !same(x, want) || frame.Spare(x) != slot(48) || !frame.Right(x) {
			t.Errorf("of %d registers: %v, %v", regs, x, e)
		}
	}
}

// P18.1, and rule 3 of P1: of Lay, numbers of registers that there may be, and others.
func TestRegisters(t *testing.T) {
	for _, x := range append(plain(), rounds()...) {
		f := laid(t, x.f)
		for regs := -3; regs < 40; regs++ {
			got, e := frame.Lay(f, regs)
			if may := 2 <= regs && regs <= 32; may != (e == api.OK) || !may && (e != api.ErrArg || !zero(got)) {
				t.Errorf("of %d registers: %v, %v", regs, got, e)
			}
		}
		for _, regs := range append(sample.Far(), math.MinInt+2, 1<<31, 1<<32+2, 1<<32+32) {
			if got, e := frame.Lay(f, regs); e != api.ErrArg || !zero(got) {
				t.Errorf("of %d registers: %v, %v", regs, got, e)
			}
		}
	}
}

// zero tells whether a frame has nothing.
func zero(x api.Frame) bool {
	return len(x.Homes)+len(x.Entry) == 0 && x.Slots == 0
}

// P18.1, and rules 2 and 3 of P1: of Lay, more slots than there may be. No function that may be needs so many, so what the arguments alone need counts here; nothing else is asked of such functions.
func TestTooMany(t *testing.T) {
	for _, params := range []int{157, 158, 159, 160, 161, 1000, 1 << 40, math.MaxInt - 1, math.MaxInt} {
		x, e := frame.Lay(ints(params, 0, []api.Ins{jump(1)}, []api.Ins{jump(1)}), 2)
		if params < 160 && (e != api.OK || x.Slots != params+1 || !frame.Right(x)) || params >= 160 && (e != api.ErrLimit || !zero(x)) {
			t.Errorf("of %d arguments: %v, %v", params, x, e)
		}
		if x, e := frame.Lay(ints(params, 0, []api.Ins{jump(1)}), 1); e != api.ErrArg || !zero(x) {
			t.Errorf("of %d arguments, and one register: %v, %v", params, x, e)
		}
	}
}

// P18.1: of Spare, any frame.
func TestSpare(t *testing.T) {
	for _, n := range []int{1, 2, 3, 49, 50, 159, 160, 161, 1 << 40} {
		for _, x := range []api.Frame{{Slots: n}, {Slots: n, Homes: []api.Loc{slot(n - 1), slot(n), reg(5)}, Entry: []api.Move{move(slot(n+1), reg(n))}}} {
			if s := frame.Spare(x); s != slot(n-1) {
				t.Errorf("%v is spare of %v", s, x)
			}
		}
	}
}

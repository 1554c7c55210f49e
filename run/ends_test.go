package run_test

import (
	"math"
	"reflect"
	"slices"
	"testing"

	"portolan/api"
	"portolan/run"
)

// P10.1: each instruction that asks an object, of none, and of fields that aren't there: the run ends behind it, and what comes later isn't done.
func TestTraps(t *testing.T) {
	begin := []api.Ins{konst(int0, 9), show(int0), object(ref0, 2, 3), object(ref1, 0, 0), none(ref2)}
	at := func(n int, l ...api.Ins) []api.Ins { return append([]api.Ins{derive(der0, ref0, n)}, l...) }
	for i, x := range []struct {
		code []api.Ins
		want api.Errno
	}{
		{[]api.Ins{load(int0, ref2, 0)}, api.ErrNull}, {[]api.Ins{load(int0, ref2, 7)}, api.ErrNull},
		{[]api.Ins{store(ref2, 0, int0)}, api.ErrNull}, {[]api.Ins{store(ref2, 7, int0)}, api.ErrNull},
		{[]api.Ins{ref(ref1, ref2, 0)}, api.ErrNull}, {[]api.Ins{ref(ref1, ref2, 7)}, api.ErrNull},
		{[]api.Ins{link(ref2, 0, ref0)}, api.ErrNull}, {[]api.Ins{link(ref2, 7, ref2)}, api.ErrNull},
		{[]api.Ins{none(ref0), derive(der0, ref0, 0)}, api.ErrNull}, {[]api.Ins{none(ref1), derive(der1, ref1, 7)}, api.ErrNull},
		{[]api.Ins{ref(ref1, ref0, 1), load(int0, ref1, 0)}, api.ErrNull},
		{[]api.Ins{load(int0, ref0, 3)}, api.ErrBound}, {[]api.Ins{load(int0, ref0, 7)}, api.ErrBound}, {[]api.Ins{load(int0, ref1, 0)}, api.ErrBound},
		{[]api.Ins{store(ref0, 3, int0)}, api.ErrBound}, {[]api.Ins{store(ref1, 0, int0)}, api.ErrBound},
		{[]api.Ins{ref(ref1, ref0, 2)}, api.ErrBound}, {[]api.Ins{ref(ref0, ref1, 0)}, api.ErrBound},
		{[]api.Ins{link(ref0, 2, ref0)}, api.ErrBound}, {[]api.Ins{link(ref1, 0, ref2)}, api.ErrBound},
		{at(3, loadAt(int0, der0)), api.ErrBound}, {at(3, storeAt(der0, int0)), api.ErrBound},
		{at(7, shift(der0, der0, 8), loadAt(int0, der0)), api.ErrBound}, {at(0, shift(der0, der0, -1), loadAt(int0, der0)), api.ErrBound},
		{at(0, shift(der0, der0, -1), storeAt(der0, int0)), api.ErrBound}, {at(2, shift(also0, der0, 1), loadAt(int0, also0)), api.ErrBound},
		{[]api.Ins{derive(der1, ref1, 0), loadAt(int0, der1)}, api.ErrBound}, {[]api.Ins{derive(der1, ref1, 0), storeAt(der1, int0)}, api.ErrBound},
	} {
		t.Log(i)
		l := slices.Concat(begin, x.code)
		p := line(append(slices.Clone(l), show(int0))...)
		ran(t, p, len(l), traps(x.want, 9))
		if got, want := run.Heap(p, 4000), run.Heap(p, len(begin)); !sameHeap(got, want) {
			t.Errorf("a trap leaves %v; want %v", got, want)
		}
	}
}

// P10.1: an error in a function that was called ends the whole run.
func TestTrapWithin(t *testing.T) {
	p := line(konst(int0, 1), call(int0, 1), show(int0))
	f := function([]api.Ins{konst(int0, 4), show(int0), none(ref0), load(int0, ref0, 0), answer(int0)})
	p.Funcs = append(p.Funcs, f)
	ran(t, p, 6, traps(api.ErrNull, 4))
}

// P10.1: blocks that lead on: a branch on any number but 0 leads to N, on 0 to M.
func TestBranch(t *testing.T) {
	for _, n := range []int{0, 1, -1, 2, 1 << 31, -1 << 31, math.MinInt, math.MaxInt, 1 << 32, 1 << 63 >> 1} {
		to := func(x api.Ins) api.Prog {
			return program(append(number(int0, n), x), []api.Ins{konst(int1, 11), show(int1), jump(3)}, []api.Ins{konst(int1, 22), show(int1), jump(3)}, []api.Ins{answer(int1)})
		}
		value := 11
		if n == 0 {
			value = 22
		}
		ran(t, to(branch(int0, 1, 2)), 14, halts(value, value))
		ran(t, to(branch(int0, 2, 1)), 14, halts(33-value, 33-value))
		ran(t, to(branch(int0, 2, 2)), 14, halts(22, 22))
		ran(t, to(jump(1)), 14, halts(11, 11))
		ran(t, to(jump(2)), 14, halts(22, 22))
	}
	same := program([]api.Ins{konst(int0, 2), jump(1)}, []api.Ins{konst(int1, 1), show(int0), calc(api.OpSub, int0, int0, int1), branch(int0, 1, 2)}, []api.Ins{answer(int0)})
	ran(t, same, 11, halts(0, 2, 1))
}

// paced is a run of just so many steps, of which these are the last ones, behind a loop.
func paced(steps int, last ...api.Ins) api.Prog {
	rest := steps - 3 - len(last)
	begin := slices.Concat([]api.Ins{konst(int0, rest/2), konst(int1, 1)}, slices.Repeat([]api.Ins{none(ref0)}, rest%2), []api.Ins{jump(1)})
	if last[len(last)-1].Op != api.OpReturn {
		last = append(slices.Clone(last), answer(int0))
	}
	return program(begin, []api.Ins{calc(api.OpSub, int0, int0, int1), branch(int0, 1, 2)}, last)
}

// P10.1: runs that end with just as many steps as there are, with one less, and with one more.
func TestMostSteps(t *testing.T) {
	trap := []api.Ins{none(ref0), load(int0, ref0, 0)}
	for _, steps := range []int{8, 9, 10, 99, 100, 3998, 3999, 4000} {
		ran(t, paced(steps, show(int1), answer(int1)), steps, halts(1, 1))
		ran(t, paced(steps, trap...), steps, traps(api.ErrNull))
	}
	for _, steps := range []int{4001, 4002, 5000} {
		for _, last := range [][]api.Ins{{answer(int1)}, trap} {
			p := paced(steps, last...)
			for _, fuel := range []int{4000, 4001, 4002, 5000, 5001, 1 << 31, 1 << 32, math.MaxInt} {
				if got := run.Run(p, fuel); !sameTrace(got, goes()) || run.Steps(p, fuel) != 4000 {
					t.Errorf("of %d steps, with %d: %v, behind %d", steps, fuel, got, run.Steps(p, fuel))
				}
			}
		}
	}
	told := run.Run(paced(4001, show(int1), answer(int1)), 5000)
	if !sameTrace(told, goes(1)) {
		t.Errorf("of 4001 steps, of which the last but one tells: %v", told)
	}
}

// P10.1: fuel that is none takes no step, of whatever program.
func TestNoFuel(t *testing.T) {
	for _, p := range []api.Prog{line(konst(int0, 3), show(int0)), paced(4001, answer(int0)), line(none(ref0), derive(der0, ref0, 0), konst(int0, 1))} {
		for _, fuel := range []int{0, -1, -2, -4000, -4001, math.MinInt, math.MinInt + 1, -1 << 32} {
			if got := run.Run(p, fuel); !sameTrace(got, goes()) {
				t.Errorf("with %d steps: %v", fuel, got)
			}
			if n, h := run.Steps(p, fuel), run.Heap(p, fuel); n != 0 || len(h.Objs) > 0 {
				t.Errorf("with %d steps it took %d, and left %v", fuel, n, h)
			}
		}
	}
}

// sameHeap tells whether two heaps have the same, be what is nothing nil or empty.
func sameHeap(a, b api.Heap) bool {
	return slices.EqualFunc(a.Objs, b.Objs, func(x, y api.Obj) bool {
		return slices.Equal(x.Refs, y.Refs) && slices.Equal(x.Ints, y.Ints)
	})
}

// P10.1: of Heap, what is there behind each step.
func TestHeap(t *testing.T) {
	obj := func(refs []int, ints ...int) api.Obj { return api.Obj{Refs: refs, Ints: ints} }
	refs := func(l ...int) []int { return l }
	p := line(konst(int0, 7), object(ref0, 2, 1), object(ref1, 0, 0), link(ref0, 1, ref1), store(ref0, 0, int0), object(ref1, 1, 3),
		derive(der1, ref1, 0), shift(der1, der1, 2), storeAt(der1, int0), link(ref1, 0, ref0), link(ref0, 0, ref0), none(ref0), link(ref1, 0, ref0), none(ref1), link(ref1, 0, ref1))
	first, last := []api.Obj{obj(refs(0, 2), 7), obj(nil)}, []api.Obj{obj(refs(1, 2), 7), obj(nil), obj(refs(0), 0, 0, 7)}
	then := func(o ...api.Obj) []api.Obj { return append(slices.Clone(first), o...) }
	for fuel, want := range [][]api.Obj{
		nil, nil, {obj(refs(0, 0), 0)}, {obj(refs(0, 0), 0), obj(nil)}, {obj(refs(0, 2), 0), obj(nil)}, first,
		then(obj(refs(0), 0, 0, 0)), then(obj(refs(0), 0, 0, 0)), then(obj(refs(0), 0, 0, 0)), then(obj(refs(0), 0, 0, 7)), then(obj(refs(1), 0, 0, 7)),
		{obj(refs(1, 2), 7), obj(nil), obj(refs(1), 0, 0, 7)}, {obj(refs(1, 2), 7), obj(nil), obj(refs(1), 0, 0, 7)}, last, last, last, last, last,
	} {
		if got := run.Heap(p, fuel); !sameHeap(got, api.Heap{Objs: want}) {
			t.Errorf("behind %d steps: %v; want %v", fuel, got, want)
		}
	}
	ran(t, p, 15, traps(api.ErrNull))
}

// P10.1: objects of each size are made, all in them nothing; what nothing leads to any more is there yet.
func TestAlloc(t *testing.T) {
	for n := range 9 {
		for m := range 9 {
			p := line(konst(int0, 0), object(ref0, n, m), object(ref0, m, n), none(ref0))
			want := api.Heap{Objs: []api.Obj{{Refs: make([]int, n), Ints: make([]int, m)}, {Refs: make([]int, m), Ints: make([]int, n)}}}
			if got := run.Heap(p, 4000); !sameHeap(got, want) {
				t.Errorf("%d, %d: %v", n, m, got)
			}
		}
	}
	many := program([]api.Ins{jump(1)}, append(slices.Repeat([]api.Ins{object(ref0, 1, 1)}, 39), jump(1)))
	if h := run.Heap(many, 4000); len(h.Objs) != 3900 || !reflect.DeepEqual(h.Objs[3899], api.Obj{Refs: []int{0}, Ints: []int{0}}) {
		t.Errorf("%d objects were made", len(h.Objs))
	}
}

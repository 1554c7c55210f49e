package kind_test

import (
	"slices"
	"testing"

	"portolan/api"
	"portolan/kind"
	"portolan/shape"
)

// program is a program of such a first function, and the others of mixed but the last one.
func program(f api.Func) api.Prog {
	p := mixed()
	p.Funcs = append([]api.Func{f}, p.Funcs[1:4]...)
	p.Funcs[2].Blocks = []api.Block{{Code: by(answer(0), konst(0))}}
	return p
}

// checked asks whether a program may be run.
func checked(t *testing.T, p api.Prog, want api.Errno) {
	t.Helper()
	if e := kind.Check(p); e != want {
		t.Errorf("Check = %d; want %d: %s", e, want, shown(p))
	}
}

// P8.1: of Check, functions of one block: an instruction asks ahead of setting.
func TestCheckBlock(t *testing.T) {
	call := func(d int, args ...int) api.Ins { return api.Ins{Op: api.OpCall, D: d, N: 1, Args: args} }
	same := func(d, a, b int) api.Ins { return api.Ins{Op: api.OpSame, D: d, A: a, B: b} }
	add := func(d, a, b int) api.Ins { return api.Ins{Op: api.OpAdd, D: d, A: a, B: b} }
	store := func(a, b int) api.Ins { return api.Ins{Op: api.OpStoreDer, A: a, B: b} }
	for i, x := range []struct {
		code []api.Ins
		want api.Errno
	}{
		{by(answer(0), konst(0)), api.OK},
		{by(answer(0)), api.ErrUnset},
		{by(answer(0), konst(6)), api.ErrUnset},
		{by(answer(0), show(0), konst(0)), api.ErrUnset},
		{by(answer(0), add(0, 0, 0)), api.ErrUnset},
		{by(answer(0), konst(0), add(0, 0, 6)), api.ErrUnset},
		{by(answer(0), konst(0), add(0, 6, 0)), api.ErrUnset},
		{by(answer(0), konst(0), add(6, 0, 0), show(6)), api.OK},
		{by(answer(0), null(1), same(0, 1, 4)), api.ErrUnset},
		{by(answer(0), null(4), same(0, 1, 4)), api.ErrUnset},
		{by(answer(0), null(1), same(0, 1, 1)), api.OK},
		{by(answer(0), konst(0), call(4, 1, 0)), api.ErrUnset},
		{by(answer(0), null(1), call(4, 1, 6), konst(0)), api.ErrUnset},
		{by(answer(0), null(1), konst(0), call(4, 1, 0), call(1, 4, 0)), api.OK},
		{by(answer(0), konst(0), derive(2, 1)), api.ErrUnset},
		{by(answer(0), konst(0), null(1), derive(2, 1), load(2)), api.OK},
		{by(answer(0), konst(0), null(1), derive(2, 1), load(3)), api.ErrUnset},
		{by(answer(0), konst(0), null(1), derive(2, 1), null(1), load(2)), api.ErrStale},
		{by(answer(0), konst(0), null(1), derive(2, 1), null(1), store(2, 0)), api.ErrStale},
		{by(answer(0), konst(0), null(1), derive(2, 1), null(1), shift(3, 2)), api.ErrStale},
		{by(answer(0), konst(0), null(1), derive(2, 1), null(1), shift(2, 2)), api.ErrStale},
		{by(answer(0), konst(0), null(1), derive(2, 1), call(1, 1, 0), load(2)), api.ErrStale},
		{by(answer(0), konst(0), null(1), derive(2, 1), call(4, 1, 0), load(2)), api.OK},
		{by(answer(0), konst(0), null(1), derive(2, 1), null(1), derive(2, 1), load(2)), api.OK},
		{by(answer(0), konst(0), null(1), derive(2, 1), null(1), derive(3, 1), load(3)), api.OK},
		{by(answer(0), konst(0), null(1), derive(2, 1), shift(2, 2), shift(3, 2), load(3), load(2)), api.OK},
		{by(answer(0), konst(0), null(1), derive(2, 1), null(4), load(2)), api.OK},
		{by(answer(0), konst(0), null(1), derive(2, 1), null(1)), api.OK},
	} {
		t.Log(i)
		checked(t, program(of(x.code)), x.want)
	}
}

// P8.1: of Check, functions of many blocks; of one that isn't reached the kinds alone are asked.
func TestCheckBlocks(t *testing.T) {
	first := []api.Ins{konst(0), null(1), null(4), derive(2, 1)}
	start := by(branch(1, 2), first...)
	for i, x := range []struct {
		f    api.Func
		want api.Errno
	}{
		{of(start, by(jump(2), konst(6)), by(answer(6))), api.ErrUnset},
		{of(start, by(jump(3), konst(6)), by(jump(3), konst(6)), by(answer(6))), api.OK},
		{of(start, by(jump(2), null(1)), by(answer(0), load(2))), api.ErrStale},
		{of(start, by(jump(2), null(1), derive(2, 1)), by(answer(0), load(2))), api.OK},
		{of(start, by(jump(2), null(1)), by(answer(0), derive(2, 1), load(2))), api.OK},
		{of(start, by(jump(2), null(4)), by(answer(0), load(2))), api.OK},
		{of(start, by(jump(2)), by(branch(2, 3), load(2), null(1)), by(answer(0))), api.ErrStale},
		{of(start, by(jump(2)), by(branch(2, 3), load(2), null(1), derive(2, 1)), by(answer(0))), api.OK},
		{of(by(answer(0), konst(0)), by(answer(6), load(2))), api.OK},
		{of(by(answer(0), konst(0)), by(answer(1))), api.ErrKind},
		{of(by(jump(2), konst(0)), by(jump(2), null(1)), by(answer(0), load(2))), api.ErrUnset},
		{of(by(jump(2), first...), by(jump(2), null(1)), by(answer(0), load(2))), api.OK},
	} {
		t.Log(i)
		checked(t, program(x.f), x.want)
	}
	f := chain(30)
	checked(t, program(f), api.ErrStale)
	f.Blocks[1].Code = f.Blocks[1].Code[len(f.Blocks[1].Code)-1:]
	checked(t, program(f), api.OK)
}

// faults is functions that fail each in one way, and one that doesn't.
func faults() map[api.Errno]api.Func {
	return map[api.Errno]api.Func{
		api.OK:       of(by(answer(0), konst(0))),
		api.ErrForm:  of(by(answer(7))),
		api.ErrKind:  of(by(answer(0), konst(0), konst(1))),
		api.ErrUnset: of(by(answer(0))),
		api.ErrStale: of(by(answer(0), konst(0), null(1), derive(2, 1), null(1), load(2))),
	}
}

// P8.1, and rule 2 of P1: of Check, of several errors the first one, in whichever functions they are, though nobody calls these.
func TestCheckOrder(t *testing.T) {
	all := faults()
	first := func(l ...api.Errno) api.Errno {
		for _, e := range []api.Errno{api.ErrForm, api.ErrKind, api.ErrUnset, api.ErrStale} {
			if slices.Contains(l, e) {
				return e
			}
		}
		return api.OK
	}
	for a, f := range all {
		for b, g := range all {
			for c, h := range all {
				checked(t, api.Prog{Funcs: []api.Func{f, g, h}}, first(a, b, c))
			}
		}
	}
	checked(t, api.Prog{Funcs: []api.Func{of(by(answer(0), load(2), show(1)))}}, api.ErrKind)
	checked(t, api.Prog{Funcs: []api.Func{of(by(answer(6), konst(0), null(1), derive(2, 1), null(1), shift(3, 2)))}}, api.ErrUnset)
}

// P8.1: of Check, functions that take arguments, and answer a Ref.
func TestCheckArguments(t *testing.T) {
	begin := faults()[api.OK]
	for params := range 4 {
		for answered := range 4 {
			f := api.Func{Kinds: []int{1, 1, 1, 1, 2}, Base: []int{-1, -1, -1, -1, 1}, Params: params, Result: 1, Blocks: []api.Block{{Code: by(answer(answered))}}}
			want := api.OK
			if answered >= params {
				want = api.ErrUnset
			}
			checked(t, api.Prog{Funcs: []api.Func{begin, f}}, want)
			f.Kinds, f.Base = []int{1, 1, 1, 0, 2}, []int{-1, -1, -1, -1, 1}
			if answered == 3 {
				want = api.ErrKind
			}
			checked(t, api.Prog{Funcs: []api.Func{begin, f}}, want)
		}
	}
}

// P8.1: of Check, programs that may not be, and some that are as great as one may be.
func TestCheckForm(t *testing.T) {
	begin := faults()[api.OK]
	for _, p := range []api.Prog{
		{}, {Funcs: []api.Func{}}, {Funcs: []api.Func{{}}}, {Funcs: slices.Repeat([]api.Func{begin}, 9)},
		{Funcs: []api.Func{mixed().Funcs[1]}}, program(of(by(answer(0), konst(0), api.Ins{Op: api.OpPoll}))),
		program(of(by(answer(0), konst(0), api.Ins{Op: api.OpPrint, N: 1}))), program(of(by(jump(0)))),
		program(of(by(answer(0), konst(0), api.Ins{Op: api.OpCall, N: 2, Args: []int{0}}))), program(of()), program(of(nil)),
	} {
		checked(t, p, api.ErrForm)
	}
	checked(t, api.Prog{Funcs: slices.Repeat([]api.Func{begin}, 8)}, api.OK)
	checked(t, api.Prog{Funcs: slices.Repeat([]api.Func{greatest()}, 8)}, api.ErrStale)
}

// greatest is a function of as many blocks and instructions as there may be, in which the last Der of a chain is stale after many ways round.
func greatest() api.Func {
	f := api.Func{Kinds: append(slices.Repeat([]int{2}, 36), slices.Repeat([]int{0}, 12)...), Base: append(slices.Repeat([]int{36}, 36), slices.Repeat([]int{-1}, 12)...)}
	f.Kinds[36] = 1
	first := []api.Ins{null(36), konst(37), derive(0, 36), null(36)}
	var body []api.Ins
	for v := 35; v > 0; v-- {
		first = append(first, derive(v, 36))
		body = append(body, shift(v, v-1))
	}
	body = append(body, slices.Repeat([]api.Ins{konst(47)}, 4)...)
	f.Blocks = []api.Block{{Code: by(jump(39), first...)}}
	for b := 1; b < 39; b++ {
		f.Blocks = append(f.Blocks, api.Block{Code: by(api.Ins{Op: api.OpBranch, A: 37, N: 39, M: (b + 1) % 39}, body[35-min(b, 2)*15:]...)})
	}
	f.Blocks[38].Code[len(f.Blocks[38].Code)-1].M = 1
	f.Blocks = append(f.Blocks, api.Block{Code: by(api.Ins{Op: api.OpBranch, A: 37, N: 1, M: 20}, body...)})
	if !shape.Func(f) {
		panic("the greatest function may not be")
	}
	return f
}

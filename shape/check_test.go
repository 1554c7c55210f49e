package shape_test

import (
	"slices"
	"testing"

	"portolan/api"
	"portolan/code"
	"portolan/shape"
)

// checked asks whether a program may be, and, if it may, for its bytes.
func checked(t *testing.T, p api.Prog, want bool) {
	t.Helper()
	e := shape.Check(p)
	if e != api.OK && e != api.ErrForm || (e == api.OK) != want {
		t.Errorf("Check(%s) = %d; may it be: %t", shown(p), e, want)
	}
	if e == api.OK {
		haveBytes(t, p)
	}
}

// haveBytes asks for bytes of a program, and for the program of these.
func haveBytes(t *testing.T, p api.Prog) {
	t.Helper()
	b, e := code.Encode(p)
	if e != api.OK {
		t.Errorf("%s has no bytes: %d", shown(p), e)
	}
	if q, e := code.Decode(b); e != api.OK || !code.Same(p, q) {
		t.Errorf("%s is decoded as %s, %d", shown(p), shown(q), e)
	}
}

// copied is a program of its own memory.
func copied(p api.Prog) api.Prog {
	q := api.Prog{Funcs: slices.Clone(p.Funcs)}
	for i := range q.Funcs {
		f := &q.Funcs[i]
		f.Kinds, f.Base, f.Blocks = slices.Clone(f.Kinds), slices.Clone(f.Base), slices.Clone(f.Blocks)
		for j := range f.Blocks {
			l := slices.Clone(f.Blocks[j].Code)
			for k := range l {
				l[k].Args = slices.Clone(l[k].Args)
			}
			f.Blocks[j].Code = l
		}
	}
	return q
}

// P4.1, P4.2: of Check, programs that may be.
func TestCheck(t *testing.T) {
	for _, p := range programs() {
		checked(t, p, true)
	}
	checked(t, api.Prog{Funcs: []api.Func{begin()}}, true)
	jump := api.Func{Kinds: []int{0}, Base: []int{-1}, Blocks: []api.Block{{Code: []api.Ins{{Op: 21}}}}}
	checked(t, api.Prog{Funcs: []api.Func{jump}}, false)
}

// P4.1: of Check, how many functions, and which one is the first.
func TestFunctions(t *testing.T) {
	for _, n := range []int{0, 1, 2, 7, 8, 9, 10, 5000} {
		checked(t, api.Prog{Funcs: slices.Repeat([]api.Func{begin()}, n)}, 1 <= n && n <= 8)
		checked(t, api.Prog{Funcs: make([]api.Func, n)}, false)
	}
	checked(t, api.Prog{Funcs: []api.Func{}}, false)
	for n, change := range []func(f *api.Func){
		func(f *api.Func) { f.Params = 1 },
		func(f *api.Func) { f.Result = 1 },
		func(f *api.Func) { f.Params, f.Result = 1, 1 },
	} {
		f := begin()
		change(&f)
		if !shape.Func(f) {
			t.Error(n, "may not be at all")
		}
		checked(t, api.Prog{Funcs: []api.Func{f}}, false)
		checked(t, api.Prog{Funcs: []api.Func{f, begin()}}, false)
		checked(t, api.Prog{Funcs: []api.Func{begin(), f}}, true)
	}
}

// P4.1: of Check, one fault of a function, in whichever one it is.
func TestFunctionFaults(t *testing.T) {
	for _, change := range []func(f *api.Func){
		func(f *api.Func) { f.Params = -1 },
		func(f *api.Func) { f.Params = 5 },
		func(f *api.Func) { f.Params = 49 },
		func(f *api.Func) { f.Result = 2 },
		func(f *api.Func) { f.Result = -1 },
		func(f *api.Func) { f.Kinds = append(f.Kinds, 0) },
		func(f *api.Func) { f.Base = append(f.Base, -1) },
		func(f *api.Func) { f.Kinds, f.Base = append(f.Kinds, 3), append(f.Base, -1) },
		func(f *api.Func) { f.Kinds, f.Base = append(f.Kinds, 2), append(f.Base, -1) },
		func(f *api.Func) { f.Kinds, f.Base = append(f.Kinds, 1), append(f.Base, 0) },
		func(f *api.Func) { f.Kinds, f.Base = make([]int, 49), slices.Repeat([]int{-1}, 49) },
		func(f *api.Func) { f.Blocks = nil },
		func(f *api.Func) { f.Blocks = append(f.Blocks, api.Block{}) },
		func(f *api.Func) { f.Blocks = slices.Repeat(begin().Blocks, 41) },
		func(f *api.Func) { f.Blocks[0].Code = slices.Repeat(f.Blocks[0].Code[:1], 41) },
		func(f *api.Func) { f.Blocks[0].Code = append(f.Blocks[0].Code, api.Ins{Op: 23}) },
		func(f *api.Func) { f.Blocks[0].Code = append(f.Blocks[0].Code, api.Ins{Op: 1}) },
	} {
		for n := range 3 {
			p := copied(some())
			change(&p.Funcs[n])
			checked(t, p, false)
		}
	}
}

// P4.1, P4.2: of Check, each field of each instruction of a program, with each of many numbers.
func TestInstructionFaults(t *testing.T) {
	for n, f := range some().Funcs {
		for i, b := range f.Blocks {
			for j := range b.Code {
				for _, v := range append(far(), -2147483649, -9, -8, -1, 0, 1, 2, 3, 4, 5, 7, 8, 9, 2147483649) {
					for k := range 7 {
						p := copied(some())
						changeField(&p.Funcs[n].Blocks[i].Code[j], k, v)
						x := p.Funcs[n].Blocks[i].Code[j]
						ends := (21 <= x.Op && x.Op <= 23) == (j == len(b.Code)-1)
						checked(t, p, ends && place{p, n}.may(x))
					}
				}
			}
		}
	}
}

// changeField puts v into x's field of that number.
func changeField(x *api.Ins, field, v int) {
	fields := []*int{&x.Op, &x.D, &x.A, &x.B, &x.N, &x.M}
	if field < len(fields) {
		*fields[field] = v
		return
	}
	x.Args = append(x.Args, v)
}

// P4.1, P4.2: of Check, programs that are changed by chance, by the words of the chapter.
func TestChanged(t *testing.T) {
	d := dice(3)
	for _, p := range programs()[3:43] {
		for range 60 {
			q := copied(p)
			n := d.to(0, len(q.Funcs)-1)
			f := &q.Funcs[n]
			l := f.Blocks[d.to(0, len(f.Blocks)-1)].Code
			j := d.to(0, len(l)-1)
			changeField(&l[j], d.to(0, 6), d.to(-3, 24))
			ends := (21 <= l[j].Op && l[j].Op <= 23) == (j == len(l)-1)
			checked(t, q, ends && place{q, n}.may(l[j]))
		}
	}
}

// P4.1: of Check, a call whose function is changed.
func TestChangedCallee(t *testing.T) {
	p := copied(some())
	p.Funcs[1].Params = 1
	checked(t, p, false)
	p.Funcs[1].Blocks[0].Code[18].Args = []int{4}
	checked(t, p, true)
	p.Funcs[1].Blocks[0].Code[18].N = 2
	checked(t, p, false)
	p.Funcs[1].Blocks[0].Code[18].Args = nil
	checked(t, p, true)
	p.Funcs[1].Blocks[0].Code[18].N = 3
	checked(t, p, false)
	p.Funcs = append(p.Funcs, begin())
	checked(t, p, true)
}

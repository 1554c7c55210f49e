package shape_test

import (
	"reflect"
	"slices"
	"testing"

	"portolan/api"
	"portolan/sample"
	"portolan/shape"
)

// ask makes each call of a program, and of all in it.
func ask(p api.Prog) {
	shape.Check(p)
	for n, f := range p.Funcs {
		shape.Func(f)
		for _, b := range f.Blocks {
			for _, x := range b.Code {
				shape.Ins(p, n, x)
				shape.Uses(x)
				shape.Sets(x)
				shape.Next(x)
			}
		}
	}
}

// P4.1, and rule 5 of P1: what is handed in stays as it was, its spare room, too.
func TestStays(t *testing.T) {
	for _, p := range append(programs(), mixed()) {
		q := sample.RoomyProgram(p)
		before := sample.WholeProgram(q)
		ask(q)
		if !reflect.DeepEqual(sample.WholeProgram(q), before) {
			t.Errorf("%s became %s", shown(before), shown(sample.WholeProgram(q)))
		}
	}
}

// P4.1, and rules 5 and 6 of P1: answers are new memory, and each call answers the same again.
func TestNewMemory(t *testing.T) {
	for _, r := range rows() {
		args := []int{7, 8, 9, 6, 5}
		x := api.Ins{Op: r.op, A: 1, B: 2, N: 4, M: 3, Args: args[:4]}
		uses, next := shape.Uses(x), shape.Next(x)
		wantUses, wantNext := slices.Clone(uses), slices.Clone(next)
		for range 2 {
			spoil(shape.Uses(x))
			spoil(shape.Next(x))
			if !slices.Equal(uses, wantUses) || !slices.Equal(next, wantNext) || !slices.Equal(args, []int{7, 8, 9, 6, 5}) {
				t.Errorf("answers of %v share memory: %v, %v", x, uses, next)
			}
		}
		clear(args)
		if !slices.Equal(uses, wantUses) {
			t.Errorf("Uses(%v) hangs on its Args", x)
		}
	}
}

// spoil writes into a list, and into its spare room.
func spoil(l []int) {
	l = l[:cap(l)]
	for i := range l {
		l[i] = 99
	}
}

// P4.1, and rule 4 of P1: lists without anything may be nil or empty.
func TestEmpty(t *testing.T) {
	p := some()
	p.Funcs[1].Blocks[2].Code[0].Args = []int{}
	p.Funcs[0].Blocks[0].Code[0].Args = make([]int, 0, 4)
	checked(t, p, true)
	q := jumps()
	q.Funcs[0].Kinds, q.Funcs[0].Base = []int{}, nil
	checked(t, q, true)
	for _, r := range rows() {
		x := api.Ins{Op: r.op, N: 1, M: 1}
		y := x
		y.Args = []int{}
		if shape.Ins(mixed(), 1, x) != shape.Ins(mixed(), 1, y) || !slices.Equal(shape.Uses(x), shape.Uses(y)) {
			t.Errorf("%v isn't as with an empty list", x)
		}
	}
}

// P1, rule 1: calls end at whatever there is, and however much of it.
func TestAnything(t *testing.T) {
	numbers := append(far(), -1, 0, 1, 2, 3, 21, 22, 23)
	for _, n := range numbers {
		for _, m := range numbers {
			x := api.Ins{Op: n, D: m, A: m, B: n, N: m, M: n, Args: []int{n, m}}
			f := api.Func{Kinds: []int{n, m, 1}, Base: []int{m}, Params: n, Result: m, Blocks: []api.Block{{}, {Code: []api.Ins{x, x}}}}
			g := api.Func{Kinds: []int{n}, Base: []int{m, n, m}, Params: m, Blocks: []api.Block{{Code: []api.Ins{x}}}}
			p := api.Prog{Funcs: []api.Func{f, g, {}}}
			ask(p)
			shape.Ins(p, n, x)
			shape.Last(n)
			h := begin()
			h.Kinds, h.Base = []int{n}, []int{m}
			function(t, h, (n == 0 || n == 1) && m == -1)
			checked(t, p, false)
		}
	}
	great := make([]int, 1<<20)
	ask(api.Prog{Funcs: make([]api.Func, 1<<16)})
	ask(api.Prog{Funcs: []api.Func{{Kinds: great, Base: great, Params: 1 << 20, Blocks: make([]api.Block, 1<<16)}}})
	callee := api.Func{Kinds: great, Params: 1 << 20, Blocks: []api.Block{{Code: []api.Ins{{Op: 19, Args: great}}}}}
	ask(api.Prog{Funcs: []api.Func{callee}})
	ins(t, api.Prog{Funcs: []api.Func{callee}}, 0, api.Ins{Op: 20, A: 1<<20 - 1}, true)
}

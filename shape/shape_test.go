package shape_test

import (
	"slices"
	"testing"

	"portolan/api"
	"portolan/shape"
)

// told asks what an instruction uses, sets, and leads to; set below 0: nothing.
func told(t *testing.T, x api.Ins, uses []int, set int, next []int) {
	t.Helper()
	if l := shape.Uses(x); !slices.Equal(l, uses) {
		t.Errorf("Uses(%v) = %v; want %v", x, l, uses)
	}
	want := set >= 0
	if d, ok := shape.Sets(x); d != max(set, 0) || ok != want {
		t.Errorf("Sets(%v) = %d, %t; want %d", x, d, ok, set)
	}
	if l := shape.Next(x); !slices.Equal(l, next) {
		t.Errorf("Next(%v) = %v; want %v", x, l, next)
	}
}

// P4.1: of Uses, Sets and Next, of each operation, where something is in each field, whether it is a part or not.
func TestFields(t *testing.T) {
	a, ab := []int{20}, []int{20, 10}
	for _, x := range []struct {
		op   int
		uses []int
		set  int
		next []int
	}{
		{1, nil, 30, nil}, {2, a, 30, nil}, {3, ab, 30, nil}, {4, ab, 30, nil}, {5, ab, 30, nil}, {6, ab, 30, nil},
		{7, nil, 30, nil}, {8, a, 30, nil}, {9, ab, 30, nil}, {10, nil, 30, nil}, {11, a, 30, nil}, {12, ab, -1, nil},
		{13, a, 30, nil}, {14, ab, -1, nil}, {15, a, 30, nil}, {16, a, 30, nil}, {17, a, 30, nil}, {18, ab, -1, nil},
		{19, []int{7, 9, 8, 9}, 30, nil}, {20, a, -1, nil}, {21, nil, -1, []int{6}}, {22, a, -1, []int{5, 6}}, {23, a, -1, nil},
	} {
		told(t, api.Ins{Op: x.op, D: 30, A: 20, B: 10, N: 6, M: 5, Args: []int{7, 9, 8, 9}}, x.uses, x.set, x.next)
	}
	for _, op := range noOps() {
		told(t, api.Ins{Op: op, D: 30, A: 20, B: 10, N: 6, M: 5, Args: []int{7, 9, 8}}, nil, -1, nil)
		told(t, api.Ins{Op: op}, nil, -1, nil)
	}
}

// P4.1: what is asked for twice stands twice, a block once; numbers may be any.
func TestTwice(t *testing.T) {
	told(t, api.Ins{Op: 3, D: 4, A: 4, B: 4}, []int{4, 4}, 4, nil)
	told(t, api.Ins{Op: 12, A: 3, B: 0}, []int{3, 0}, -1, nil)
	told(t, api.Ins{Op: 19, Args: []int{2, 2, 1, 2}}, []int{2, 2, 1, 2}, 0, nil)
	told(t, api.Ins{Op: 19}, nil, 0, nil)
	told(t, api.Ins{Op: 19, Args: []int{}}, nil, 0, nil)
	told(t, api.Ins{Op: 21}, nil, -1, []int{0})
	told(t, api.Ins{Op: 21, M: 3}, nil, -1, []int{0})
	told(t, api.Ins{Op: 22, N: 2, M: 2}, []int{0}, -1, []int{2})
	told(t, api.Ins{Op: 22, N: 2, M: 7}, []int{0}, -1, []int{2, 7})
	told(t, api.Ins{Op: 22}, []int{0}, -1, []int{0})
	for _, n := range append(far(), -1) {
		told(t, api.Ins{Op: 21, N: n}, nil, -1, []int{n})
		told(t, api.Ins{Op: 22, A: n, N: n, M: n}, []int{n}, -1, []int{n})
		told(t, api.Ins{Op: 22, A: n, N: n}, []int{n}, -1, []int{min(n, 0), max(n, 0)})
		told(t, api.Ins{Op: 22, A: n, M: n}, []int{n}, -1, []int{min(n, 0), max(n, 0)})
		told(t, api.Ins{Op: 18, A: n, B: n}, []int{n, n}, -1, nil)
		told(t, api.Ins{Op: 19, Args: []int{n}}, []int{n}, 0, nil)
		if d, ok := shape.Sets(api.Ins{Op: 7, D: n}); d != n || !ok {
			t.Errorf("Sets: %d, %t; want %d", d, ok, n)
		}
	}
}

// P4.1: of Last.
func TestLast(t *testing.T) {
	for _, r := range rows() {
		if got, want := shape.Last(r.op), r.op == 21 || r.op == 22 || r.op == 23; got != want {
			t.Errorf("Last(%d) = %t", r.op, got)
		}
	}
	for _, op := range append(noOps(), 1<<32+21, 1<<32+22, 1<<32+23) {
		if shape.Last(op) {
			t.Errorf("Last(%d)", op)
		}
	}
}

// ins asks whether x may be in a program's function.
func ins(t *testing.T, p api.Prog, n int, x api.Ins, want bool) {
	t.Helper()
	if shape.Ins(p, n, x) != want {
		t.Errorf("Ins(%s, %d, %v) isn't %t", shown(p), n, x, want)
	}
}

// mixed is a program whose functions have each another number of variables, blocks and Params.
func mixed() api.Prog {
	var p api.Prog
	for _, n := range []struct{ vars, blocks, params int }{{0, 1, 0}, {1, 2, 1}, {5, 4, 0}, {48, 40, 4}, {4, 1, 3}, {2, 3, 2}} {
		f := api.Func{Kinds: make([]int, n.vars), Blocks: make([]api.Block, n.blocks), Params: n.params}
		for v := range n.vars {
			f.Kinds[v], f.Base = []int{0, 1, 2}[v%3], append(f.Base, []int{-1, -1, v - 1}[v%3])
		}
		p.Funcs = append(p.Funcs, f)
	}
	return p
}

// P4.1: of Ins, each field of each operation at its limits, one further, and far from them, the others being as they may.
func TestIns(t *testing.T) {
	p, d := mixed(), dice(2)
	if len(rows()) != 23 {
		t.Fatal("an operation is without a row")
	}
	for _, n := range []int{1, 2, 3, 5} {
		w := place{p, n}
		for _, r := range rows() {
			for range 20 {
				x := d.ins(w, r)
				ins(t, p, n, x, true)
				aroundFields(t, w, r, x)
			}
		}
	}
}

// aroundFields asks for x with each field changed: by itself it may be within its limits alone.
func aroundFields(t *testing.T, w place, r row, x api.Ins) {
	t.Helper()
	for i, y := range r.parts(&x) {
		least, most := w.limits(y.r)
		for _, n := range append(far(), -1, 0, 1, least-1, least, most, most+1) {
			changed := x
			*r.parts(&changed)[i].n = n
			ins(t, w.p, w.n, changed, least <= n && n <= most && (y.r != callee || w.p.Funcs[n].Params == len(x.Args)))
		}
	}
	for _, args := range [][]int{{0}, {0, 0}, {-1}, make([]int, 1000)} {
		if !r.args {
			x.Args = args
			ins(t, w.p, w.n, x, false)
		}
	}
}

// P4.1: of Ins, a limit of each operation as a number.
func TestNumbers(t *testing.T) {
	p := mixed()
	for _, n := range []int{-2147483649, 2147483649} {
		ins(t, p, 2, api.Ins{Op: 1, D: 4, N: n}, false)
	}
	for _, n := range []int{-2147483648, -1, 0, 2147483648} {
		ins(t, p, 2, api.Ins{Op: 1, D: 4, N: n}, true)
	}
	for n := -12; n <= 12; n++ {
		ins(t, p, 2, api.Ins{Op: 16, D: 4, A: 3, N: n}, -8 <= n && n <= 8)
		ins(t, p, 2, api.Ins{Op: 10, N: n}, 0 <= n && n <= 8)
		ins(t, p, 2, api.Ins{Op: 10, M: n}, 0 <= n && n <= 8)
		for _, op := range []int{11, 12, 13, 14, 15} {
			ins(t, p, 2, api.Ins{Op: op, A: 3, N: n}, 0 <= n && n <= 7)
		}
		for _, op := range []int{2, 3, 7, 8, 17} {
			ins(t, p, 2, api.Ins{Op: op, D: n}, 0 <= n && n <= 4)
		}
		ins(t, p, 2, api.Ins{Op: 20, A: n}, 0 <= n && n <= 4)
		ins(t, p, 2, api.Ins{Op: 18, B: n}, 0 <= n && n <= 4)
		ins(t, p, 2, api.Ins{Op: 21, N: n}, 1 <= n && n <= 3)
		ins(t, p, 2, api.Ins{Op: 22, N: n, M: 1}, 1 <= n && n <= 3)
		ins(t, p, 2, api.Ins{Op: 22, N: 3, M: n}, 1 <= n && n <= 3)
	}
}

// P4.1: of Ins, calls: of each function, itself and the first one too, with each number of arguments.
func TestCalls(t *testing.T) {
	p := mixed()
	p.Funcs = append(p.Funcs, api.Func{Params: -1}, api.Func{Params: 5}, api.Func{Params: 1 << 32})
	for n := -3; n < 12; n++ {
		for count := range 8 {
			want := n >= 0 && n < len(p.Funcs) && p.Funcs[n].Params == count
			ins(t, p, 2, api.Ins{Op: 19, D: 4, N: n, Args: make([]int, count)}, want)
		}
	}
	ins(t, p, 3, api.Ins{Op: 19, N: 0, Args: []int{}}, true)
	ins(t, p, 0, api.Ins{Op: 19, N: 0}, false)
	ins(t, p, 0, api.Ins{Op: 19, N: 1, Args: []int{0}}, false)
	for i := range 4 {
		for v := -3; v < 9; v++ {
			args := []int{4, 4, 4, 4}
			args[i] = v
			ins(t, p, 2, api.Ins{Op: 19, D: 4, N: 3, Args: args}, 0 <= v && v <= 4)
		}
	}
}

// P4.1: of Ins, what is no operation, or in no function, whatever else there is.
func TestNowhere(t *testing.T) {
	p := mixed()
	for _, op := range noOps() {
		for n := range p.Funcs {
			ins(t, p, n, api.Ins{Op: op}, false)
			ins(t, p, n, api.Ins{Op: op, D: 1, A: 1, B: 1, N: 1, M: 1, Args: []int{1}}, false)
		}
	}
	for _, n := range append(far(), -7, -2, -1, 6, 7) {
		ins(t, p, n, api.Ins{Op: 7}, false)
		ins(t, p, n, api.Ins{Op: 21, N: 1}, false)
		ins(t, api.Prog{}, n, api.Ins{Op: 7}, false)
	}
	ins(t, api.Prog{}, 0, api.Ins{Op: 7}, false)
	ins(t, p, 0, api.Ins{Op: 7}, false)
	ins(t, p, 0, api.Ins{Op: 21, N: 1}, false)
	ins(t, p, 5, api.Ins{Op: 7}, true)
}

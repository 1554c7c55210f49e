package shape_test

import (
	"slices"
	"testing"

	"portolan/api"
	"portolan/shape"
)

// function asks whether f may be.
func function(t *testing.T, f api.Func, want bool) {
	t.Helper()
	if shape.Func(f) != want {
		t.Errorf("Func(%s) isn't %t", shown(f), want)
	}
}

// with is a function with variables, one block and Params.
func with(kinds, base []int, params int) api.Func {
	return api.Func{Kinds: kinds, Base: base, Params: params, Blocks: begin().Blocks}
}

// P4.1: of Func, functions that may be.
func TestFunc(t *testing.T) {
	for _, p := range programs() {
		for _, f := range p.Funcs {
			function(t, f, true)
		}
	}
	function(t, with(nil, nil, 0), true)
	function(t, with([]int{}, []int{}, 0), true)
	function(t, api.Func{}, false)
}

// P4.1: of Func, kinds and bases.
func TestVariables(t *testing.T) {
	for _, x := range []struct {
		kinds, base []int
		want        bool
	}{
		{[]int{0}, nil, false}, {nil, []int{-1}, false}, {[]int{0, 1}, []int{-1}, false}, {[]int{0}, []int{-1, -1}, false},
		{[]int{1}, []int{-1}, true}, {[]int{1}, []int{0}, false}, {[]int{0}, []int{0}, false}, {[]int{0, 1}, []int{1, -1}, false}, {[]int{1, 1}, []int{-1, 0}, false},
		{[]int{2, 1}, []int{1, -1}, true}, {[]int{1, 2}, []int{-1, 0}, true}, {[]int{1, 2, 2}, []int{-1, 0, 0}, true},
		{[]int{2}, []int{-1}, false}, {[]int{2}, []int{0}, false}, {[]int{2}, []int{1}, false}, {[]int{1, 2}, []int{-1, -1}, false},
		{[]int{1, 2}, []int{-1, 1}, false}, {[]int{1, 2}, []int{-1, 2}, false}, {[]int{0, 2}, []int{-1, 0}, false},
		{[]int{1, 2, 2}, []int{-1, 0, 1}, false}, {[]int{2, 1, 0}, []int{2, -1, -1}, false},
	} {
		function(t, with(x.kinds, x.base, 0), x.want)
	}
	for _, n := range append(far(), -2, 3, 4) {
		function(t, with([]int{n}, []int{-1}, 0), false)
		function(t, with([]int{1, n}, []int{-1, 0}, 0), false)
		function(t, with([]int{1, 0}, []int{-1, n}, 0), false)
		function(t, with([]int{1, 1}, []int{n, -1}, 0), false)
		function(t, with([]int{1, 2}, []int{-1, n}, 0), false)
	}
	for _, n := range []int{1, 2, 47, 48, 49, 50, 5000} {
		function(t, with(make([]int, n), slices.Repeat([]int{-1}, n), 0), n <= 48)
		function(t, with(make([]int, n), slices.Repeat([]int{-1}, 49-n%49), 0), false)
		function(t, with(make([]int, 48), slices.Repeat([]int{-1}, n), 0), n == 48)
	}
}

// P4.1: of Func, each variable of many, of each kind, with each base.
func TestEachVariable(t *testing.T) {
	kinds, base := []int{0, 1, 2, 1, 2, 0}, []int{-1, -1, 3, -1, 1, -1}
	function(t, with(kinds, base, 2), true)
	for v := range kinds {
		for kind := -1; kind <= 3; kind++ {
			for b := -2; b < 8; b++ {
				f := with(slices.Clone(kinds), slices.Clone(base), 0)
				f.Kinds[v], f.Base[v] = kind, b
				stands := kind == 1 || v != 1 && v != 3
				none := (kind == 0 || kind == 1) && b == -1
				ref := kind == 2 && (b == 1 || b == 3) && b != v
				function(t, f, stands && (none || ref))
			}
		}
	}
}

// P4.1: of Func, Params and Result.
func TestParams(t *testing.T) {
	long, bases := []int{0, 1, 1, 0, 0, 1, 2}, []int{-1, -1, -1, -1, -1, -1, 1}
	for n := -3; n < 9; n++ {
		for count := range len(long) + 1 {
			function(t, with(long[:count], bases[:count], n), 0 <= n && n <= 4 && n <= count)
		}
		for v := range 5 {
			kinds, base := slices.Clone(long), slices.Clone(bases)
			kinds[v], base[v] = 2, 5
			kinds[6], base[6] = 0, -1
			function(t, with(kinds, base, n), 0 <= n && n <= 4 && n <= v)
		}
	}
	for _, n := range append(far(), -2, -1, 0, 1, 2, 3) {
		function(t, with(long, bases, n), 0 <= n && n <= 4)
		f := with(long, bases, 0)
		f.Result = n
		function(t, f, n == 0 || n == 1)
	}
}

// P4.1: of Func, blocks and what ends them, whatever else an instruction is.
func TestBlocks(t *testing.T) {
	f := some().Funcs[1]
	for i, b := range f.Blocks {
		for j := range b.Code {
			for _, op := range slices.Concat(noOps(), []int{1, 2, 7, 19, 20, 21, 22, 23}) {
				g := copied(api.Prog{Funcs: []api.Func{f}}).Funcs[0]
				x := &g.Blocks[i].Code[j]
				x.Op, x.D, x.N, x.Args = op, 99, -1<<40, []int{-7}
				function(t, g, (21 <= op && op <= 23) == (j == len(b.Code)-1))
			}
		}
		g := copied(api.Prog{Funcs: []api.Func{f}}).Funcs[0]
		g.Blocks[i].Code = nil
		function(t, g, false)
		g.Blocks[i].Code = []api.Ins{}
		function(t, g, false)
	}
	last := api.Ins{Op: 23}
	for _, n := range []int{0, 1, 2, 39, 40, 41, 5000} {
		b := begin().Blocks[0]
		function(t, api.Func{Blocks: slices.Repeat([]api.Block{b}, n)}, 1 <= n && n <= 40)
		long := append(slices.Repeat([]api.Ins{{Op: 7}}, n), last)
		function(t, api.Func{Blocks: []api.Block{{Code: long}}}, n+1 <= 40)
		function(t, api.Func{Blocks: []api.Block{b, {Code: long}, b}}, n+1 <= 40)
		function(t, api.Func{Blocks: []api.Block{{Code: long[:n]}}}, false)
		function(t, api.Func{Blocks: []api.Block{{Code: slices.Repeat([]api.Ins{last}, n)}}}, n == 1)
	}
}

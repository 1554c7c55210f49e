package kind_test

import (
	"math"
	"slices"
	"testing"

	"portolan/api"
	"portolan/kind"
	"portolan/sample"
)

// mixed is a program whose functions have variables of all kinds, take and answer unlike things.
func mixed() api.Prog {
	ret := []api.Block{{Code: []api.Ins{{Op: api.OpReturn}}}}
	return api.Prog{Funcs: []api.Func{
		{Kinds: []int{0, 1, 2, 2, 1, 2, 0}, Base: []int{-1, -1, 1, 1, -1, 4, -1}, Blocks: ret},
		{Kinds: []int{1, 0, 2}, Base: []int{-1, -1, 0}, Params: 2, Result: 1, Blocks: ret},
		{Kinds: []int{0}, Base: []int{-1}, Result: 0, Blocks: ret},
		{Kinds: []int{0, 1, 1, 0, 0, 1}, Base: slices.Repeat([]int{-1}, 6), Params: 4, Result: 0, Blocks: ret},
		{Blocks: []api.Block{{Code: []api.Ins{{Op: api.OpJump, N: 1}}}, {Code: []api.Ins{{Op: api.OpJump, N: 1}}}}},
	}}
}

// fitted asks whether an instruction's kinds fit.
func fitted(t *testing.T, p api.Prog, n int, x api.Ins, want bool) {
	t.Helper()
	if kind.Fits(p, n, x) != want {
		t.Errorf("Fits in %d, of %v, isn't %t", n, x, want)
	}
}

// P8.1: of Fits, each operation with each variable in each place; what is no part may be anything.
func TestFits(t *testing.T) {
	p := mixed()
	for n, f := range p.Funcs {
		most := len(f.Kinds)
		for op := 1; op <= 23; op++ {
			for d := -1; d <= most; d++ {
				for a := -1; a <= most; a++ {
					for b := -1; b <= most; b++ {
						x := api.Ins{Op: op, D: d, A: a, B: b, N: 2}
						fitted(t, p, n, x, fits(p, n, x))
					}
				}
			}
		}
	}
}

// P8.1: of Fits, instructions that are written out, in the first function: 0 and 6 are Int, 1 and 4 Ref, 2 and 3 Ders of 1, 5 one of 4.
func TestFitsWrittenOut(t *testing.T) {
	for _, x := range []struct {
		ins  api.Ins
		want bool
	}{
		{api.Ins{Op: api.OpConst, D: 6, N: 3}, true}, {api.Ins{Op: api.OpConst, D: 1}, false}, {api.Ins{Op: api.OpConst, D: 2}, false},
		{api.Ins{Op: api.OpMove, D: 0, A: 6}, true}, {api.Ins{Op: api.OpMove, D: 4, A: 1}, true}, {api.Ins{Op: api.OpMove, D: 2, A: 3}, false},
		{api.Ins{Op: api.OpMove, D: 0, A: 1}, false}, {api.Ins{Op: api.OpMove, D: 1, A: 0}, false}, {api.Ins{Op: api.OpMove, D: 1, A: 2}, false},
		{api.Ins{Op: api.OpAdd, D: 0, A: 6, B: 0}, true}, {api.Ins{Op: api.OpSub, D: 0, A: 6, B: 1}, false}, {api.Ins{Op: api.OpMul, D: 0, A: 4, B: 0}, false},
		{api.Ins{Op: api.OpLess, D: 2, A: 6, B: 0}, false}, {api.Ins{Op: api.OpNull, D: 1}, true}, {api.Ins{Op: api.OpNull, D: 2}, false}, {api.Ins{Op: api.OpNull}, false},
		{api.Ins{Op: api.OpIsNull, D: 0, A: 4}, true}, {api.Ins{Op: api.OpIsNull, D: 0, A: 2}, false}, {api.Ins{Op: api.OpSame, D: 0, A: 4, B: 1}, true},
		{api.Ins{Op: api.OpSame, D: 0, A: 2, B: 3}, false}, {api.Ins{Op: api.OpAlloc, D: 4}, true}, {api.Ins{Op: api.OpAlloc, D: 0}, false},
		{api.Ins{Op: api.OpLoadInt, D: 0, A: 1}, true}, {api.Ins{Op: api.OpLoadInt, D: 1, A: 1}, false}, {api.Ins{Op: api.OpLoadInt, D: 0, A: 2}, false},
		{api.Ins{Op: api.OpStoreInt, A: 1, B: 0}, true}, {api.Ins{Op: api.OpStoreInt, A: 1, B: 1}, false}, {api.Ins{Op: api.OpStoreInt, A: 2, B: 0}, false},
		{api.Ins{Op: api.OpLoadRef, D: 1, A: 1}, true}, {api.Ins{Op: api.OpLoadRef, D: 0, A: 1}, false}, {api.Ins{Op: api.OpLoadRef, D: 1, A: 0}, false},
		{api.Ins{Op: api.OpStoreRef, A: 4, B: 1}, true}, {api.Ins{Op: api.OpStoreRef, A: 4, B: 2}, false}, {api.Ins{Op: api.OpStoreRef, A: 4, B: 0}, false},
		{api.Ins{Op: api.OpDerive, D: 2, A: 1}, true}, {api.Ins{Op: api.OpDerive, D: 2, A: 4}, false}, {api.Ins{Op: api.OpDerive, D: 5, A: 4}, true},
		{api.Ins{Op: api.OpDerive, D: 1, A: 1}, false}, {api.Ins{Op: api.OpShift, D: 2, A: 2}, true}, {api.Ins{Op: api.OpShift, D: 3, A: 2}, true},
		{api.Ins{Op: api.OpShift, D: 5, A: 2}, false}, {api.Ins{Op: api.OpShift, D: 2, A: 1}, false}, {api.Ins{Op: api.OpShift, D: 0, A: 6}, false},
		{api.Ins{Op: api.OpLoadDer, D: 6, A: 5}, true}, {api.Ins{Op: api.OpLoadDer, D: 1, A: 5}, false}, {api.Ins{Op: api.OpLoadDer, D: 6, A: 1}, false},
		{api.Ins{Op: api.OpStoreDer, A: 3, B: 6}, true}, {api.Ins{Op: api.OpStoreDer, A: 1, B: 6}, false}, {api.Ins{Op: api.OpStoreDer, A: 3, B: 4}, false},
		{api.Ins{Op: api.OpPrint, A: 6}, true}, {api.Ins{Op: api.OpPrint, A: 1}, false}, {api.Ins{Op: api.OpJump, N: 1}, true},
		{api.Ins{Op: api.OpBranch, A: 6, N: 1, M: 1}, true}, {api.Ins{Op: api.OpBranch, A: 4, N: 1, M: 1}, false},
		{api.Ins{Op: api.OpReturn, A: 6}, true}, {api.Ins{Op: api.OpReturn, A: 1}, false}, {api.Ins{Op: api.OpReturn, A: 2}, false},
	} {
		fitted(t, mixed(), 0, x.ins, x.want)
	}
	fitted(t, mixed(), 1, api.Ins{Op: api.OpReturn, A: 0}, true)
	fitted(t, mixed(), 1, api.Ins{Op: api.OpReturn, A: 1}, false)
	fitted(t, mixed(), 1, api.Ins{Op: api.OpReturn, A: 2}, false)
}

// P8.1: of Fits, calls: of each function, with each answer, and each variable as each argument.
func TestFitsCalls(t *testing.T) {
	p := mixed()
	fitted(t, p, 0, api.Ins{Op: api.OpCall, N: 1, D: 4, Args: []int{1, 6}}, true)
	fitted(t, p, 0, api.Ins{Op: api.OpCall, N: 1, D: 4, Args: []int{6, 1}}, false)
	fitted(t, p, 0, api.Ins{Op: api.OpCall, N: 3, D: 4, Args: []int{0, 1, 4, 6}}, false)
	for n, f := range p.Funcs {
		for g, right := range [][]int{{}, {1, 0}, {}, {0, 1, 4, 6}, {}} {
			for d := -1; d <= len(f.Kinds); d++ {
				x := api.Ins{Op: api.OpCall, N: g, D: d, Args: right}
				fitted(t, p, n, x, fits(p, n, x))
				for i := range right {
					for v := -1; v <= len(f.Kinds); v++ {
						x.Args = slices.Clone(right)
						x.Args[i] = v
						fitted(t, p, n, x, fits(p, n, x))
					}
				}
			}
		}
	}
}

// P8.1: of Fits, what is in no function, calls none, is of no operation of a program, or has more arguments than there are variables.
func TestFitsNowhere(t *testing.T) {
	p := mixed()
	for _, n := range append(sample.Far(), -3, 7, 8) {
		fitted(t, p, n, api.Ins{Op: api.OpReturn}, false)
		fitted(t, p, n, api.Ins{Op: api.OpJump, N: 1}, false)
		fitted(t, api.Prog{}, n, api.Ins{Op: api.OpJump, N: 1}, false)
		fitted(t, p, 0, api.Ins{Op: api.OpCall, N: n}, false)
		for op := 1; op <= 23; op++ {
			fitted(t, p, 0, api.Ins{Op: op, D: n, A: n, B: n, N: n, Args: []int{n}}, op == api.OpJump)
		}
	}
	fitted(t, p, 5, api.Ins{Op: api.OpJump, N: 1}, false)
	fitted(t, p, 0, api.Ins{Op: api.OpCall, N: 5}, false)
	fitted(t, api.Prog{}, 0, api.Ins{Op: api.OpJump, N: 1}, false)
	for _, op := range []int{math.MinInt, -23, -1, 0, 24, 25, 26, 1 << 32, 1<<32 + 1, 1<<32 + 21, math.MaxInt} {
		fitted(t, p, 0, api.Ins{Op: op}, false)
	}
	for _, args := range [][]int{{0, 0}, make([]int, 8), make([]int, 5000)} {
		fitted(t, p, 0, api.Ins{Op: api.OpCall, N: 2, Args: args}, false)
	}
}

package live_test

import (
	"math"
	"slices"
	"testing"

	"portolan/api"
	"portolan/bitset"
	"portolan/live"
	"portolan/sample"
	"portolan/shape"
)

// set is an instruction that sets a variable, and ask is one that asks for it.
func set(d int) api.Ins { return api.Ins{Op: api.OpConst, D: d} }
func ask(a int) api.Ins { return api.Ins{Op: api.OpPrint, A: a} }

// add is an instruction that sets one variable, and asks for two.
func add(d, a, b int) api.Ins { return api.Ins{Op: api.OpAdd, D: d, A: a, B: b} }

// jump, branch and answer end a block; but for jump they ask for a variable.
func jump(n int) api.Ins         { return api.Ins{Op: api.OpJump, N: n} }
func branch(a, n, m int) api.Ins { return api.Ins{Op: api.OpBranch, A: a, N: n, M: m} }
func answer(a int) api.Ins       { return api.Ins{Op: api.OpReturn, A: a} }

// of is a function of these blocks, and as many variables as there may be.
func of(blocks ...[]api.Ins) api.Func {
	f := api.Func{Kinds: make([]int, api.MaxVars), Base: slices.Repeat([]int{-1}, api.MaxVars)}
	for _, l := range blocks {
		f.Blocks = append(f.Blocks, api.Block{Code: l})
	}
	return f
}

// written is a function, and of each of its blocks what is live ahead of each instruction, and behind the last one.
type written struct {
	f    api.Func
	live [][][]int
}

// straight is functions without ways round.
func straight() []written {
	return []written{
		{
			of([]api.Ins{set(0), ask(0), answer(1)}),
			[][][]int{{{1}, {0, 1}, {1}, {}}},
		},
		{
			of([]api.Ins{add(0, 0, 2), set(3), add(2, 0, 0), set(0), add(0, 2, 0), answer(0)}),
			[][][]int{{{0, 2}, {0}, {0}, {2}, {0, 2}, {0}, {}}},
		},
		{
			of([]api.Ins{set(0), branch(0, 1, 2)}, []api.Ins{ask(3), set(4), jump(3)}, []api.Ins{set(3), ask(5), jump(3)}, []api.Ins{ask(4), answer(3)}),
			[][][]int{{{3, 4, 5}, {0, 3, 4, 5}, {3, 4, 5}}, {{3}, {3}, {3, 4}, {3, 4}}, {{4, 5}, {3, 4, 5}, {3, 4}, {3, 4}}, {{3, 4}, {3}, {}}},
		},
		{
			of([]api.Ins{branch(1, 3, 1)}, []api.Ins{ask(7), answer(0)}, []api.Ins{set(0), ask(8), jump(1)}, []api.Ins{set(0), set(7), jump(2)}),
			[][][]int{{{0, 1, 7, 8}, {0, 7, 8}}, {{0, 7}, {0}, {}}, {{7, 8}, {0, 7, 8}, {0, 7}, {0, 7}}, {{8}, {8}, {7, 8}, {7, 8}}},
		},
		{
			of([]api.Ins{answer(47)}, []api.Ins{ask(2), jump(2)}, []api.Ins{set(2), branch(3, 1, 2)}, []api.Ins{set(3), jump(1)}),
			[][][]int{{{47}, {}}, {{2, 3}, {3}, {3}}, {{3}, {2, 3}, {2, 3}}, {{2}, {2, 3}, {2, 3}}},
		},
	}
}

// round is functions with ways round.
func round() []written {
	return []written{
		{
			of([]api.Ins{jump(1)}, []api.Ins{ask(0), add(1, 1, 2), set(0), branch(1, 1, 2)}, []api.Ins{answer(3)}),
			[][][]int{{{0, 1, 2, 3}, {0, 1, 2, 3}}, {{0, 1, 2, 3}, {1, 2, 3}, {1, 2, 3}, {0, 1, 2, 3}, {0, 1, 2, 3}}, {{3}, {}}},
		},
		{
			of([]api.Ins{set(5), jump(1)}, []api.Ins{set(0), ask(0), branch(0, 1, 2)}, []api.Ins{answer(5)}),
			[][][]int{{{}, {5}, {5}}, {{5}, {0, 5}, {0, 5}, {5}}, {{5}, {}}},
		},
		{
			of([]api.Ins{branch(9, 3, 2)}, []api.Ins{ask(1), jump(2)}, []api.Ins{branch(2, 1, 3)}, []api.Ins{set(1), ask(3), jump(2)}),
			[][][]int{{{1, 2, 3, 9}, {1, 2, 3}}, {{1, 2, 3}, {1, 2, 3}, {1, 2, 3}}, {{1, 2, 3}, {1, 2, 3}}, {{2, 3}, {1, 2, 3}, {1, 2, 3}, {1, 2, 3}}},
		},
		{
			of([]api.Ins{set(0), jump(1)}, []api.Ins{jump(1)}),
			[][][]int{{{}, {}, {}}, {{}, {}}},
		},
		{
			of([]api.Ins{jump(4)}, []api.Ins{jump(3)}, []api.Ins{ask(6), set(6), jump(1)}, []api.Ins{branch(8, 4, 3)}, []api.Ins{set(8), branch(7, 2, 1)}),
			[][][]int{{{6, 7}, {6, 7}}, {{6, 7, 8}, {6, 7, 8}}, {{6, 7, 8}, {7, 8}, {6, 7, 8}, {6, 7, 8}}, {{6, 7, 8}, {6, 7, 8}}, {{6, 7}, {6, 7, 8}, {6, 7, 8}}},
		},
	}
}

// at asks what is live ahead of an instruction, or, behind a block's last one, there.
func at(f api.Func, b, i int) []int {
	if i == len(f.Blocks[b].Code) {
		return bitset.List(live.Out(f, b))
	}
	return bitset.List(live.Ahead(f, b, i))
}

// P11.1: of all calls, functions that are written out.
func TestWrittenOut(t *testing.T) {
	for n, x := range append(straight(), round()...) {
		for b, l := range x.live {
			for i, want := range l {
				if got := at(x.f, b, i); !slices.Equal(got, want) {
					t.Errorf("%d: live at %d of %d: %v; want %v", n, i, b, got, want)
				}
				if got := bitset.List(live.Behind(x.f, b, i-1)); i > 0 && !slices.Equal(got, want) {
					t.Errorf("%d: live behind %d of %d: %v; want %v", n, i-1, b, got, want)
				}
				for v := range api.MaxVars {
					if i < len(l)-1 && live.Is(x.f, b, i, v) != slices.Contains(want, v) {
						t.Errorf("%d: Is(%d, %d, %d) isn't as %v", n, b, i, v, want)
					}
				}
			}
			if got := bitset.List(live.In(x.f, b)); !slices.Equal(got, l[0]) {
				t.Errorf("%d: live at the beginning of %d: %v; want %v", n, b, got, l[0])
			}
		}
	}
}

// P11.1: of each operation, what it asks for is live ahead of it, and what it sets isn't, unless it asks for that, too.
func TestOperations(t *testing.T) {
	ab := []int{1, 2}
	for op, uses := range [][]int{
		nil, nil, {1}, ab, ab, ab, ab, nil, {1}, ab, nil, {1}, ab, {1}, ab, {1}, {1}, {1}, ab, {6, 4, 6}, {1}, nil, {1}, {1}, nil,
	} {
		sets := 1 <= op && op <= 19 && op != 12 && op != 14 && op != 18
		for _, d := range []int{0, 1, 2, 4, 5} {
			x := api.Ins{Op: op, D: d, A: 1, B: 2, N: 1, M: 1, Args: []int{6, 4, 6}}
			behind := bitset.Of(5)
			code := []api.Ins{x, answer(5)}
			switch {
			case op == 23:
				code, behind = code[:1], nil
			case shape.Last(op):
				code = code[:1]
			}
			want := behind
			if sets {
				want = bitset.Without(want, d)
			}
			f := of(code, []api.Ins{answer(5)})
			if got := live.Ahead(f, 0, 0); !bitset.Same(got, bitset.With(want, uses...)) {
				t.Errorf("ahead of %v are live %v", x, bitset.List(got))
			}
			if got := live.Behind(f, 0, 0); !bitset.Same(got, behind) {
				t.Errorf("behind %v are live %v", x, bitset.List(got))
			}
		}
	}
}

// P11.1: a base isn't live where its Der is, and an argument is set by nothing.
func TestBaseAndArguments(t *testing.T) {
	f := api.Func{Kinds: []int{1, 0, 2, 2}, Base: []int{-1, -1, 0, 0}, Params: 2, Result: 0, Blocks: []api.Block{
		{Code: []api.Ins{{Op: api.OpDerive, D: 2, A: 0}, {Op: api.OpShift, D: 3, A: 2, N: 1}, {Op: api.OpStoreDer, A: 3, B: 1}, {Op: api.OpLoadDer, D: 1, A: 3}, answer(1)}},
	}}
	for i, want := range [][]int{{0, 1}, {1, 2}, {1, 3}, {3}, {1}, {}} {
		if got := at(f, 0, i); !slices.Equal(got, want) {
			t.Errorf("live at %d: %v; want %v", i, got, want)
		}
	}
}

// greatest is a function as great as one may be: each block sets the variable of its number first, the last one asks for all of them but 38, and, ahead of all, the first one for 47.
func greatest() api.Func {
	f := of()
	for b := range api.MaxBlocks {
		code := slices.Repeat([]api.Ins{{Op: api.OpConst, D: 46}}, api.MaxCode)
		code[0], code[api.MaxCode-1] = set(b), jump(b+1)
		f.Blocks = append(f.Blocks, api.Block{Code: code})
	}
	f.Blocks[0].Code[1] = ask(47)
	last := f.Blocks[39].Code
	for v := range 38 {
		last[v+1] = ask(v)
	}
	last[39] = answer(39)
	return f
}

// P11.1: a function as great as one may be.
func TestGreatest(t *testing.T) {
	f := greatest()
	if shape.Check(api.Prog{Funcs: []api.Func{f}}) != api.OK {
		t.Fatal("it may not be")
	}
	for b := range 39 {
		for i := range 41 {
			var want []int
			for v := range 38 {
				if v < b || v == b && i > 0 {
					want = append(want, v)
				}
			}
			if b == 0 && i < 2 {
				want = append(want, 47)
			}
			if got := at(f, b, i); !slices.Equal(got, want) {
				t.Errorf("live at %d of %d: %v; want %v", i, b, got, want)
			}
		}
	}
	for i := 1; i < 39; i++ {
		if got := at(f, 39, i); len(got) != 40-i || got[0] != min(i-1, 39) || got[len(got)-1] != 39 {
			t.Errorf("live at %d of the last block: %v", i, got)
		}
	}
}

// P11.1: what is asked for far away is live on the whole way round.
func TestFarRound(t *testing.T) {
	for _, l := range []sample.Ends{sample.Round(40), sample.Nest(40), sample.Chain(40)} {
		f := l.Function()
		f.Kinds, f.Base = []int{0, 1, 0, 0}, []int{-1, -1, -1, -1}
		f.Blocks[1].Code = append([]api.Ins{ask(2)}, f.Blocks[1].Code...)
		f.Blocks[39].Code = append([]api.Ins{ask(3)}, f.Blocks[39].Code...)
		comes := func(from, to int) bool { return slices.Contains(l.From(from), to) }
		for b := range f.Blocks {
			if live.Is(f, b, 0, 2) != comes(b, 1) || live.Is(f, b, 0, 3) != comes(b, 39) {
				t.Errorf("live at the beginning of %d: %v", b, at(f, b, 0))
			}
		}
	}
}

// P11.1: where there is no instruction nothing is live, and what is no variable never is.
func TestNowhere(t *testing.T) {
	far := append(sample.Far(), math.MaxInt-1, 48, 63, 64, 4095, 4096)
	for n, x := range append(straight(), round()...) {
		places := append(slices.Clone(far), 0, 1, 2)
		for b, l := range x.live {
			for _, i := range append(far, len(l)-1, len(l)) {
				nothing(t, x.f, b, i)
				if live.Is(x.f, b, 0, i) && i > 9 && i != 47 || i < 0 && live.Is(x.f, b, 0, i) {
					t.Errorf("%d: %d is live", n, i)
				}
			}
		}
		for _, b := range append(far, len(x.f.Blocks), len(x.f.Blocks)+1) {
			for _, i := range places {
				nothing(t, x.f, b, i)
			}
			if len(live.In(x.f, b)) > 0 || len(live.Out(x.f, b)) > 0 {
				t.Errorf("%d: something is live in %d", n, b)
			}
		}
	}
}

// nothing asks at a place where there is no instruction.
func nothing(t *testing.T, f api.Func, b, i int) {
	t.Helper()
	if len(live.Ahead(f, b, i)) > 0 || len(live.Behind(f, b, i)) > 0 {
		t.Errorf("something is live at %d of %d", i, b)
	}
	for v := range api.MaxVars {
		if live.Is(f, b, i, v) {
			t.Errorf("%d is live at %d of %d", v, i, b)
		}
	}
}

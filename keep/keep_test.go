package keep_test

import (
	"math"
	"slices"
	"testing"

	"portolan/api"
	"portolan/bitset"
	"portolan/keep"
	"portolan/sample"
	"portolan/shape"
)

// step is an instruction, and what is kept ahead of it and across it.
type step struct {
	x             api.Ins
	ahead, across []int
}

// vars is a function without blocks: 0 and 6 are Int, 1 and 4 Ref, 2 and 3 Ders of 1, 5 is one of 4.
func vars() api.Func {
	return api.Func{Kinds: []int{0, 1, 2, 2, 1, 2, 0}, Base: []int{-1, -1, 1, 1, -1, 4, -1}}
}

// of is a function of these blocks.
func of(blocks ...[]api.Ins) api.Func {
	f := vars()
	for _, l := range blocks {
		f.Blocks = append(f.Blocks, api.Block{Code: l})
	}
	return f
}

// written is functions whose answers are written out.
func written() [][][]step {
	return [][][]step{
		{ // a base that isn't asked for any more, beside one whose Ders take turns
			{
				{api.Ins{Op: api.OpAlloc, D: 1, M: 2}, nil, nil},
				{api.Ins{Op: api.OpDerive, D: 2, A: 1, N: 1}, []int{1}, []int{1}},
				{api.Ins{Op: api.OpAlloc, D: 4, M: 1}, []int{1, 2}, []int{1, 2}},
				{api.Ins{Op: api.OpDerive, D: 5, A: 4}, []int{1, 2, 4}, []int{1, 2, 4}},
				{api.Ins{Op: api.OpShift, D: 3, A: 2, N: 1}, []int{1, 2, 4, 5}, []int{1, 4, 5}},
				{api.Ins{Op: api.OpLoadDer, A: 3}, []int{1, 3, 4, 5}, []int{4, 5}},
				{api.Ins{Op: api.OpStoreDer, A: 5}, []int{0, 4, 5}, []int{0}},
				{api.Ins{Op: api.OpReturn}, []int{0}, nil},
			},
		},
		{ // two Ders of one base, and a base that is asked for beside its Der
			{
				{api.Ins{Op: api.OpShift, D: 2, A: 2, N: 1}, []int{0, 1, 2, 3}, []int{0, 1, 3}},
				{api.Ins{Op: api.OpStoreDer, A: 2}, []int{0, 1, 2, 3}, []int{0, 1, 3}},
				{api.Ins{Op: api.OpPoll}, []int{0, 1, 3}, []int{0, 1, 3}},
				{api.Ins{Op: api.OpStoreDer, A: 3}, []int{0, 1, 3}, []int{1}},
				{api.Ins{Op: api.OpLoadInt, A: 1}, []int{1}, nil},
				{api.Ins{Op: api.OpReturn}, []int{0}, nil},
			},
		},
		{ // a base that is set while a Der of it is live
			{
				{api.Ins{Op: api.OpDerive, D: 2, A: 1}, []int{1, 4}, []int{1, 4}},
				{api.Ins{Op: api.OpNull, D: 1}, []int{1, 2, 4}, []int{2, 4}},
				{api.Ins{Op: api.OpCall, D: 1, Args: []int{1, 4}}, []int{1, 2, 4}, []int{2}},
				{api.Ins{Op: api.OpLoadDer, A: 2}, []int{1, 2}, nil},
				{api.Ins{Op: api.OpReturn}, []int{0}, nil},
			},
		},
		{ // a Der that is asked for on one of two ways
			{
				{api.Ins{Op: api.OpDerive, D: 2, A: 1}, []int{0, 1}, []int{0, 1}},
				{api.Ins{Op: api.OpBranch, N: 1, M: 2}, []int{0, 1, 2}, []int{1, 2}},
			},
			{
				{api.Ins{Op: api.OpLoadDer, A: 2}, []int{1, 2}, nil},
				{api.Ins{Op: api.OpJump, N: 3}, []int{0}, []int{0}},
			},
			{
				{api.Ins{Op: api.OpConst}, nil, nil},
				{api.Ins{Op: api.OpJump, N: 3}, []int{0}, []int{0}},
			},
			{
				{api.Ins{Op: api.OpReturn}, []int{0}, nil},
			},
		},
		{ // a Der that is asked for on a way round, and points there
			{
				{api.Ins{Op: api.OpAlloc, D: 1}, nil, nil},
				{api.Ins{Op: api.OpDerive, D: 2, A: 1}, []int{1}, []int{1}},
				{api.Ins{Op: api.OpJump, N: 1}, []int{1, 2}, []int{1, 2}},
			},
			{
				{api.Ins{Op: api.OpLoadDer, A: 2}, []int{1, 2}, []int{1, 2}},
				{api.Ins{Op: api.OpAlloc, D: 4}, []int{0, 1, 2}, []int{0, 1, 2}},
				{api.Ins{Op: api.OpCall, D: 6, Args: []int{4}}, []int{0, 1, 2, 4}, []int{0, 1, 2}},
				{api.Ins{Op: api.OpPoll}, []int{0, 1, 2, 6}, []int{0, 1, 2, 6}},
				{api.Ins{Op: api.OpBranch, A: 6, N: 1, M: 2}, []int{0, 1, 2, 6}, []int{0, 1, 2}},
			},
			{
				{api.Ins{Op: api.OpReturn}, []int{0}, nil},
			},
		},
		{ // a Der that is derived anew on each way round, and a block that isn't reached
			{
				{api.Ins{Op: api.OpJump, N: 1}, []int{0, 1}, []int{0, 1}},
			},
			{
				{api.Ins{Op: api.OpDerive, D: 2, A: 1}, []int{0, 1}, []int{0, 1}},
				{api.Ins{Op: api.OpStoreDer, A: 2}, []int{0, 1, 2}, []int{0, 1}},
				{api.Ins{Op: api.OpBranch, N: 1, M: 3}, []int{0, 1}, []int{0, 1}},
			},
			{
				{api.Ins{Op: api.OpLoadDer, D: 6, A: 5}, []int{0, 1, 4, 5}, []int{0, 1}},
				{api.Ins{Op: api.OpJump, N: 1}, []int{0, 1}, []int{0, 1}},
			},
			{
				{api.Ins{Op: api.OpReturn}, []int{0}, nil},
			},
		},
	}
}

// function is of the instructions of steps.
func function(blocks [][]step) api.Func {
	f := vars()
	for _, l := range blocks {
		var b api.Block
		for _, s := range l {
			b.Code = append(b.Code, s.x)
		}
		f.Blocks = append(f.Blocks, b)
	}
	return f
}

// list asks whether a set is the one that it should be.
func list(t *testing.T, call string, x any, got []uint64, want []int) {
	t.Helper()
	if !slices.Equal(got, bitset.Of(want...)) {
		t.Errorf("%s %v are kept %v; want %v", call, x, bitset.List(got), want)
	}
}

// P12.1: of Ahead, Behind and Across, functions that are written out. A block's last instruction sets nothing: what is kept behind it is kept across it.
func TestWrittenOut(t *testing.T) {
	for _, blocks := range written() {
		f := function(blocks)
		for b, l := range blocks {
			for i, s := range l {
				behind := s.across
				if i+1 < len(l) {
					behind = l[i+1].ahead
				}
				list(t, "ahead of", s.x, keep.Ahead(f, b, i), s.ahead)
				list(t, "behind", s.x, keep.Behind(f, b, i), behind)
				list(t, "across", s.x, keep.Across(f, b, i), s.across)
			}
		}
	}
}

// P12.1: of each operation, what is kept behind it is kept across it, but what it sets, be it asked for, a Der, or the base of one.
func TestOperations(t *testing.T) {
	later := []api.Ins{{Op: api.OpLoadDer, D: 6, A: 2}, {Op: api.OpStoreDer, A: 5}, {Op: api.OpReturn}}
	for op := 1; op <= 24; op++ {
		for d := range 7 {
			x := api.Ins{Op: op, D: d, A: 3, B: 6, N: 1, M: 1, Args: []int{6, 3, 6}}
			code, live := append([]api.Ins{x}, later...), []int{0, 2, 5}
			switch {
			case op == 23:
				code, live = code[:1], nil
			case op > 20 && op < 23:
				code = code[:1]
			}
			f := of(code, later)
			list(t, "behind", x, keep.Behind(f, 0, 0), based(f, live))
			isSet := func(v int) bool { return v == d && op <= 19 && op != 12 && op != 14 && op != 18 }
			list(t, "across", x, keep.Across(f, 0, 0), slices.DeleteFunc(based(f, live), isSet))
			live = append(slices.DeleteFunc(live, isSet), shape.Uses(x)...)
			list(t, "ahead of", x, keep.Ahead(f, 0, 0), based(f, live))
		}
	}
}

// P12.1: where there is no instruction nothing is kept.
func TestNowhere(t *testing.T) {
	far := slices.Clip(append(sample.Far(), math.MaxInt-1))
	for _, blocks := range written() {
		f := function(blocks)
		for b, l := range blocks {
			for _, i := range append(far, len(l), len(l)+1) {
				nothing(t, f, b, i)
			}
		}
		for _, b := range append(far, len(blocks), len(blocks)+1) {
			for _, i := range append(far, 0, 1, 2) {
				nothing(t, f, b, i)
			}
		}
	}
}

// nothing asks at a place where there is no instruction.
func nothing(t *testing.T, f api.Func, b, i int) {
	t.Helper()
	if len(keep.Ahead(f, b, i)) > 0 || len(keep.Behind(f, b, i)) > 0 || len(keep.Across(f, b, i)) > 0 {
		t.Errorf("something is kept at %d of %d", i, b)
	}
}

// based is variables, and the bases of those that are Ders.
func based(f api.Func, l []int) []int {
	all := slices.Clone(l)
	for _, v := range l {
		if f.Kinds[v] == api.Der {
			all = append(all, f.Base[v])
		}
	}
	return all
}

// P12.1: of Refs, Ders and Close, all sets of a few variables, with and without numbers that are no variables, and words of 0.
func TestSets(t *testing.T) {
	f := vars()
	for n := range uint64(1) << 7 {
		l := bitset.List([]uint64{n})
		of := func(kind int) []int {
			return slices.DeleteFunc(slices.Clone(l), func(v int) bool { return f.Kinds[v] != kind })
		}
		for _, s := range [][]uint64{
			{n}, {n, 0, 0}, {n | 1<<7}, {n | 0xffff<<48}, {n, 1}, {n, math.MaxUint64, 0},
			append([]uint64{n}, slices.Repeat([]uint64{math.MaxUint64}, 100)...),
		} {
			if got := keep.Refs(f, s); !slices.Equal(got, of(api.Ref)) {
				t.Errorf("Refs of %x = %v", s, got)
			}
			if got := keep.Ders(f, s); !slices.Equal(got, of(api.Der)) {
				t.Errorf("Ders of %x = %v", s, got)
			}
			list(t, "with", s, keep.Close(f, s), based(f, l))
		}
	}
	for _, s := range [][]uint64{nil, {}, {0}, {0, 1}, {1 << 7}} {
		if len(keep.Refs(f, s)) > 0 || len(keep.Ders(f, s)) > 0 || len(keep.Close(f, s)) > 0 {
			t.Errorf("of %x there are variables", s)
		}
	}
}

// greatest is a function of as many variables as there may be: 0 to 22 are Ders of 47, 23 to 45 of 46; a block derives them all, the other one asks for them, the last one first.
func greatest() api.Func {
	f := api.Func{Kinds: slices.Repeat([]int{2}, 48), Base: slices.Repeat([]int{47}, 48)}
	f.Kinds[46], f.Kinds[47], f.Base[46], f.Base[47] = 1, 1, -1, -1
	blocks := make([]api.Block, 4)
	for v := range 46 {
		if v > 22 {
			f.Base[v] = 46
		}
		at, to := &blocks[v/23], &blocks[3-v/23]
		at.Code = append(at.Code, api.Ins{Op: api.OpDerive, D: v, A: f.Base[v]})
		to.Code = slices.Insert(to.Code, 0, api.Ins{Op: api.OpShift, D: v, A: v})
	}
	for b := range blocks {
		blocks[b].Code = append(blocks[b].Code, api.Ins{Op: api.OpJump, N: b + 1})
	}
	f.Blocks = append(blocks, api.Block{Code: []api.Ins{{Op: api.OpAlloc, D: 47}, {Op: api.OpReturn, A: 47}}})
	f.Result = api.Ref
	return f
}

// P12.1: a function of as many variables as there may be.
func TestGreatest(t *testing.T) {
	f := greatest()
	if !shape.Func(f) {
		t.Fatal("it may not be")
	}
	for b, x := range f.Blocks {
		for i, x := range x.Code {
			var live []int
			for v := range 46 {
				derived := v < b*23+i
				asked := b > 1 && v >= (4-b)*23-i
				if derived && !asked {
					live = append(live, v)
				}
			}
			ahead := based(f, live)
			if b < 2 {
				ahead = append(ahead, 46, 47)
			}
			if b == 4 && i == 1 {
				ahead = []int{47}
			}
			list(t, "ahead of", x, keep.Ahead(f, b, i), ahead)
		}
	}
	all := slices.Repeat([]uint64{math.MaxUint64}, 2)
	if l := keep.Refs(f, all); !slices.Equal(l, []int{46, 47}) {
		t.Errorf("Refs are %v", l)
	}
	if l := keep.Ders(f, all); len(l) != 46 || l[45] != 45 {
		t.Errorf("Ders are %v", l)
	}
	for v := range 46 {
		list(t, "with", v, keep.Close(f, bitset.Of(v)), []int{v, f.Base[v]})
	}
}

package keep_test

import (
	"math"
	"reflect"
	"slices"
	"testing"

	"portolan/api"
	"portolan/bitset"
	"portolan/keep"
	"portolan/sample"
)

// few is functions for the rules.
func few() []api.Func {
	all := many()[:150]
	for _, blocks := range written() {
		all = append(all, function(blocks))
	}
	return all
}

// answers is what all calls answer of a function.
type answers struct {
	sets  [][]uint64
	lists [][]int
}

// asked makes each call of a function, at each place of a few blocks, and of a few sets.
func asked(f api.Func) answers {
	var a answers
	for b, x := range f.Blocks[:min(len(f.Blocks), 4)] {
		for i := range x.Code {
			a.sets = append(a.sets, keep.Ahead(f, b, i), keep.Behind(f, b, i), keep.Across(f, b, i))
		}
	}
	for _, s := range append(slices.Clone(a.sets), []uint64{0x123456789abcdef, 1}, []uint64{1 << 47, 0}) {
		a.sets = append(a.sets, keep.Close(f, s))
		a.lists = append(a.lists, keep.Refs(f, s), keep.Ders(f, s))
	}
	return a
}

// same tells whether answers are alike.
func (a answers) same(b answers) bool {
	return slices.EqualFunc(a.sets, b.sets, slices.Equal) && slices.EqualFunc(a.lists, b.lists, slices.Equal)
}

// P12.1, and rules 5 and 6 of P1: answers are new memory, share none with one another, and each call answers the same again.
func TestNewMemory(t *testing.T) {
	for _, f := range few() {
		first, second := asked(f), asked(f)
		want := answers{sample.Copied(first.sets), sample.Copied(first.lists)}
		if !second.same(want) {
			t.Fatalf("%s answers %v, then %v", shown(f), want, second)
		}
		if !sample.Apart(second.sets, 0x5555) || !sample.Apart(second.lists, 77) {
			t.Fatalf("%s: answers share memory", shown(f))
		}
		if !first.same(want) || !asked(f).same(want) {
			t.Fatalf("%s: answers share memory with what is kept", shown(f))
		}
	}
}

// P12.1, and rule 5 of P1: what is handed in stays as it was, its spare room, too, and what stands there is not read.
func TestStays(t *testing.T) {
	for _, f := range few() {
		g := sample.Roomy(f)
		before, want := sample.Whole(g), asked(f)
		if a := asked(g); !a.same(want) {
			t.Errorf("%s answers %v; want %v", shown(f), a, want)
		}
		for _, n := range sample.Far() {
			nothing(t, g, n, 0)
			nothing(t, g, 0, n)
		}
		if !reflect.DeepEqual(sample.Whole(g), before) {
			t.Errorf("%s became %s", shown(before), shown(sample.Whole(g)))
		}
	}
}

// P12.1, and rule 5 of P1: sets that are handed in stay as they were, their spare room, too, and no answer hangs on it.
func TestSetStays(t *testing.T) {
	f := vars()
	for n := range uint64(1) << 7 {
		s := []uint64{n, 1, 77, 78}
		refs, ders, all := keep.Refs(f, s[:2]), keep.Ders(f, s[:2]), keep.Close(f, s[:2])
		if !slices.Equal(s, []uint64{n, 1, 77, 78}) {
			t.Fatalf("%b became %v", n, s)
		}
		sample.Spoil(s, 0x5555)
		sample.Spoil(refs, 77)
		if !slices.Equal(all, keep.Close(f, []uint64{n})) || !slices.Equal(ders, keep.Ders(f, []uint64{n})) {
			t.Errorf("of %b answers hang on what was handed in, or on one another", n)
		}
	}
}

// P12.1: sets are answered in one way, and what is closed stays as it is when it is closed again.
func TestOneWay(t *testing.T) {
	for _, f := range few() {
		for _, s := range asked(f).sets {
			if len(s) > 0 && s[len(s)-1] == 0 {
				t.Fatalf("%s answers %v", shown(f), s)
			}
			if got := keep.Close(f, s); !bitset.Holds(got, s) || !slices.Equal(keep.Close(f, got), got) {
				t.Fatalf("%v becomes %v: %s", s, got, shown(f))
			}
		}
	}
}

// P12.1, and rule 4 of P1: lists without anything may be nil or empty.
func TestEmpty(t *testing.T) {
	for _, f := range few() {
		if !asked(sample.Bare(f)).same(asked(f)) {
			t.Errorf("%s isn't as with lists without anything", shown(f))
		}
	}
	for _, l := range [][]int{nil, {}} {
		f := api.Func{Kinds: l, Base: l, Blocks: []api.Block{{Code: []api.Ins{{Op: api.OpJump, N: 1}}}, {Code: []api.Ins{{Op: api.OpJump, N: 1}}}}}
		a := asked(f)
		for _, s := range a.sets {
			if len(s) > 0 {
				t.Errorf("without variables %v are kept", bitset.List(s))
			}
		}
		for _, l := range a.lists {
			if len(l) > 0 {
				t.Errorf("without variables there are %v", l)
			}
		}
	}
}

// Rule 1 of P1: calls end and don't panic, also at functions that may not be, of which nothing else is promised.
func TestAnything(t *testing.T) {
	numbers := append(sample.Far(), 0, 1, 2, 3, 4095, 4096, math.MaxInt-1)
	all := slices.Repeat([]uint64{math.MaxUint64}, 65)
	for _, n := range numbers {
		for _, m := range numbers {
			for op := -1; op < 30; op++ {
				f := sample.Odd(op, n, m)
				asked(f)
				keep.Across(f, n, m)
				keep.Across(f, 2, n)
				keep.Close(f, all)
				keep.Ders(f, all)
			}
		}
	}
	for _, f := range []api.Func{{}, {Blocks: []api.Block{}}, {Kinds: []int{2}, Base: nil, Blocks: make([]api.Block, 41)}} {
		asked(f)
		keep.Close(f, all)
		for _, b := range append(numbers, 40) {
			nothing(t, f, b, 0)
		}
	}
}

// Rule 1 of P1: calls end, however many blocks, variables and words there are.
func TestMany(t *testing.T) {
	const n = 1 << 16
	f := sample.Round(n).Function()
	f.Kinds, f.Base = slices.Repeat([]int{2}, n), make([]int, n)
	f.Kinds[0], f.Base[0] = 1, -1
	f.Blocks[n-1].Code = slices.Insert(f.Blocks[n-1].Code, 0, api.Ins{Op: api.OpLoadDer, A: 9, D: 8})
	for _, s := range [][]uint64{keep.Ahead(f, 1, 0), keep.Behind(f, 0, 0)} {
		if !bitset.Has(s, 9) || !bitset.Has(s, 0) || bitset.Has(s, 8) {
			t.Errorf("of %d blocks are kept %v", n, bitset.List(s))
		}
	}
	all := slices.Repeat([]uint64{math.MaxUint64}, n/64)
	if len(keep.Refs(f, all)) != 1 || len(keep.Ders(f, all)) != n-1 || bitset.Count(keep.Close(f, all)) != api.MaxSet {
		t.Errorf("of %d variables are %v Refs", n, keep.Refs(f, all))
	}
}

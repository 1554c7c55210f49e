package kind_test

import (
	"math"
	"reflect"
	"slices"
	"testing"

	"portolan/api"
	"portolan/bitset"
	"portolan/kind"
	"portolan/sample"
)

// few is programs for the rules.
func few() []api.Prog {
	all := append(sample.Programs()[:150], mixed())
	for _, x := range append(straight(), round()...) {
		all = append(all, program(x.f))
	}
	return all
}

// answers is what all calls answer of a program: of each block what is set and fresh, and behind each of its instructions.
type answers struct {
	e    api.Errno
	fits []bool
	sets [][]uint64
}

// ask makes each call of a program.
func ask(p api.Prog) answers {
	a := answers{e: kind.Check(p)}
	for n, f := range p.Funcs {
		for b, l := range f.Blocks {
			set, fresh := kind.Set(f, b), kind.Fresh(f, b)
			a.sets = append(a.sets, set, fresh)
			for _, x := range l.Code {
				a.fits = append(a.fits, kind.Fits(p, n, x))
				set, fresh = kind.Step(f, x, set, fresh)
				a.sets = append(a.sets, set, fresh)
			}
		}
	}
	return a
}

// same tells whether answers are alike.
func (a answers) same(b answers) bool {
	return a.e == b.e && slices.Equal(a.fits, b.fits) && slices.EqualFunc(a.sets, b.sets, slices.Equal)
}

// copied is answers of their own memory.
func (a answers) copied() answers {
	a.sets = sample.Copied(a.sets)
	return a
}

// spoil writes into a set, and into its spare room.
func spoil(s []uint64) {
	sample.Spoil(s, 0x5555)
}

// P8.1, and rules 5 and 6 of P1: answers are new memory, share none with one another, and each call answers the same again.
func TestNewMemory(t *testing.T) {
	for _, p := range few() {
		first, second := ask(p), ask(p)
		want := first.copied()
		if !second.same(want) {
			t.Fatalf("%s answers %v, then %v", shown(p), want, second)
		}
		if !sample.Apart(second.sets, 0x5555) {
			t.Fatalf("%s: answers share memory", shown(p))
		}
		if !first.same(want) || !ask(p).same(want) {
			t.Fatalf("%s: answers share memory with what is kept", shown(p))
		}
	}
}

// P8.1, and rule 5 of P1: what Step is handed stays as it was, its spare room, too, and no answer hangs on it.
func TestStepStays(t *testing.T) {
	f := of(by(answer(0)))
	for op := 1; op <= 24; op++ {
		for d := range f.Kinds {
			x := api.Ins{Op: op, D: d, A: 2}
			set, fresh := []uint64{0b11, 1, 77, 78}, []uint64{0b101100, 1, 79, 80}
			gotSet, gotFresh := kind.Step(f, x, set[:2], fresh[:2])
			wantSet, wantFresh := slices.Clone(gotSet), slices.Clone(gotFresh)
			if !slices.Equal(set, []uint64{0b11, 1, 77, 78}) || !slices.Equal(fresh, []uint64{0b101100, 1, 79, 80}) {
				t.Errorf("behind %v sets became %v, %v", x, set, fresh)
			}
			spoil(set)
			spoil(fresh)
			if !slices.Equal(gotSet, wantSet) || !slices.Equal(gotFresh, wantFresh) {
				t.Errorf("behind %v answers hang on what was handed in", x)
			}
			spoil(gotSet)
			if !slices.Equal(gotFresh, wantFresh) {
				t.Errorf("behind %v answers hang on one another", x)
			}
		}
	}
}

// P8.1, and rule 5 of P1: programs that are handed in stay as they were, their spare room, too, and what stands there is not read.
func TestStays(t *testing.T) {
	for _, p := range few() {
		q := sample.RoomyProgram(p)
		before, want := sample.WholeProgram(q), ask(p)
		if a := ask(q); !a.same(want) {
			t.Errorf("%s answers %v; want %v", shown(p), a, want)
		}
		if !reflect.DeepEqual(sample.WholeProgram(q), before) {
			t.Errorf("%s became %s", shown(before), shown(sample.WholeProgram(q)))
		}
	}
}

// P8.1: sets are answered in one way, in whatever way those are that are handed in.
func TestOneWay(t *testing.T) {
	for _, p := range few() {
		for _, s := range ask(p).sets {
			if len(s) > 0 && s[len(s)-1] == 0 {
				t.Fatalf("%s answers %v", shown(p), s)
			}
		}
	}
	f := of(by(answer(0)))
	for op := 1; op <= 23; op++ {
		for d := range f.Kinds {
			for some := range uint64(128) {
				x := api.Ins{Op: op, D: d, A: 2}
				set, fresh := kind.Step(f, x, []uint64{some, 0, 0}, []uint64{some & 0b101100, 0})
				wantSet, wantFresh := kind.Step(f, x, bitset.With([]uint64{some}), bitset.With([]uint64{some & 0b101100}))
				if !slices.Equal(set, wantSet) || !slices.Equal(fresh, wantFresh) {
					t.Errorf("behind %v, of %b, are set %v, fresh %v", x, some, set, fresh)
				}
				if len(fresh) > 0 && fresh[len(fresh)-1] == 0 {
					t.Errorf("behind %v, of %b, are fresh %v", x, some, fresh)
				}
			}
		}
	}
}

// P8.1, and rule 4 of P1: lists without anything may be nil or empty.
func TestEmpty(t *testing.T) {
	for _, p := range few() {
		q := api.Prog{Funcs: slices.Clone(p.Funcs)}
		for n, f := range q.Funcs {
			q.Funcs[n] = sample.Bare(f)
		}
		if !ask(q).same(ask(p)) {
			t.Errorf("%s isn't as with lists without anything", shown(p))
		}
	}
	x, f := konst(0), of(by(answer(0)))
	for _, s := range [][]uint64{nil, {}, {0}} {
		if set, fresh := kind.Step(f, x, s, s); !slices.Equal(set, []uint64{1}) || len(fresh) > 0 {
			t.Errorf("of %v are set %v, fresh %v", s, set, fresh)
		}
	}
	empty := api.Func{Kinds: []int{}, Base: nil, Blocks: []api.Block{{Code: []api.Ins{jump(1)}}, {Code: []api.Ins{jump(1)}}}}
	checked(t, api.Prog{Funcs: []api.Func{empty}}, api.OK)
	empty.Kinds, empty.Base = nil, []int{}
	checked(t, api.Prog{Funcs: []api.Func{empty}}, api.OK)
}

// Rule 1 of P1: calls end and don't panic, also at what may not be, of which nothing else is promised.
func TestAnything(t *testing.T) {
	numbers := append(sample.Far(), 0, 1, 2, 3, math.MaxInt-1)
	wide := bitset.Of(0, 1, 2, 4095)
	for _, n := range numbers {
		for _, m := range numbers {
			for op := -1; op < 30; op++ {
				x := api.Ins{Op: op, D: n, A: m, B: n, N: n, M: m, Args: []int{n, m}}
				y := api.Ins{Op: op, D: m, A: n, N: m, M: n}
				f := api.Func{Kinds: []int{n, m, 2}, Base: []int{m}, Params: m, Result: n, Blocks: []api.Block{{Code: []api.Ins{x}}, {}, {Code: []api.Ins{y, x}}, {Code: []api.Ins{x, y}}}}
				g := api.Func{Kinds: []int{2, 1}, Base: []int{1, n, m}, Params: n, Result: m, Blocks: f.Blocks}
				p := api.Prog{Funcs: []api.Func{f, g, {}}}
				ask(p)
				kind.Fits(p, n, x)
				kind.Set(f, n)
				kind.Fresh(g, m)
				kind.Step(g, x, wide, wide)
				checked(t, p, api.ErrForm)
			}
		}
	}
	for _, f := range []api.Func{{}, {Blocks: []api.Block{}}, {Blocks: make([]api.Block, 41)}, {Params: math.MaxInt, Blocks: make([]api.Block, 1)}} {
		ask(api.Prog{Funcs: []api.Func{f, f}})
		for _, b := range numbers {
			kind.Set(f, b)
			kind.Fresh(f, b)
		}
	}
}

// Rule 1 of P1: calls end, however many blocks, variables and arguments there are.
func TestMany(t *testing.T) {
	const n = 1 << 14
	for _, l := range []sample.Ends{sample.Chain(n), sample.Round(n), sample.Rungs(n)} {
		f := l.Function()
		if s := kind.Set(f, n-1); !slices.Equal(s, []uint64{3}) || len(kind.Fresh(f, n-1)) > 0 {
			t.Errorf("of %d blocks are set %v", n, s)
		}
		checked(t, api.Prog{Funcs: []api.Func{f}}, api.ErrForm)
	}
	great := make([]int, n)
	f := api.Func{Kinds: great, Base: great, Params: n, Blocks: []api.Block{{Code: []api.Ins{{Op: api.OpCall, D: n - 1, Args: great}, {Op: api.OpReturn}}}}}
	ask(api.Prog{Funcs: []api.Func{f}})
}

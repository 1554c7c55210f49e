package live_test

import (
	"math"
	"reflect"
	"slices"
	"testing"

	"portolan/api"
	"portolan/bitset"
	"portolan/live"
	"portolan/sample"
)

// few is functions for the rules.
func few() []api.Func {
	all := append(many()[:150], greatest())
	for _, x := range append(straight(), round()...) {
		all = append(all, x.f)
	}
	return all
}

// answers is what all calls answer of a function.
type answers struct {
	sets [][]uint64
	is   []bool
}

// asked makes each call of a function, at each place of a few blocks.
func asked(f api.Func) answers {
	var a answers
	for b, x := range f.Blocks {
		a.sets = append(a.sets, live.In(f, b), live.Out(f, b))
		if b > 3 {
			continue
		}
		for i := range x.Code {
			a.sets = append(a.sets, live.Ahead(f, b, i), live.Behind(f, b, i))
			a.is = append(a.is, live.Is(f, b, i, 0), live.Is(f, b, i, 1))
		}
	}
	return a
}

// same tells whether answers are alike.
func (a answers) same(b answers) bool {
	return slices.EqualFunc(a.sets, b.sets, slices.Equal) && slices.Equal(a.is, b.is)
}

// P11.1, and rules 5 and 6 of P1: answers are new memory, share none with one another, and each call answers the same again.
func TestNewMemory(t *testing.T) {
	for _, f := range few() {
		first, second := asked(f), asked(f)
		want := answers{sample.Copied(first.sets), first.is}
		if !second.same(want) {
			t.Fatalf("%s answers %v, then %v", shown(f), want, second)
		}
		if !sample.Apart(second.sets, 0x5555) {
			t.Fatalf("%s: answers share memory", shown(f))
		}
		if !first.same(want) || !asked(f).same(want) {
			t.Fatalf("%s: answers share memory with what is kept", shown(f))
		}
	}
}

// P11.1, and rule 5 of P1: what is handed in stays as it was, its spare room, too, and what stands there is not read.
func TestStays(t *testing.T) {
	for _, f := range few() {
		g := sample.Roomy(f)
		before, want := sample.Whole(g), asked(f)
		if a := asked(g); !a.same(want) {
			t.Errorf("%s answers %v; want %v", shown(f), a, want)
		}
		for _, n := range sample.Far() {
			nothing(t, g, n, 0)
			nothing(t, g, 0, n)
		}
		if !reflect.DeepEqual(sample.Whole(g), before) {
			t.Errorf("%s became %s", shown(before), shown(sample.Whole(g)))
		}
	}
}

// P11.1: sets are answered in one way.
func TestOneWay(t *testing.T) {
	for _, f := range few() {
		for _, s := range asked(f).sets {
			if len(s) > 0 && s[len(s)-1] == 0 {
				t.Fatalf("%s answers %v", shown(f), s)
			}
		}
	}
}

// P11.1: answers hang neither on kinds and bases, nor on numbers that are no blocks, nor on fields that are no parts.
func TestCodeAlone(t *testing.T) {
	for _, f := range few() {
		g := sample.Roomy(f)
		g.Params, g.Result = 0, 1-f.Result
		for v := range g.Kinds {
			g.Kinds[v], g.Base[v] = 2-g.Kinds[v], v
		}
		for _, b := range g.Blocks {
			for i, x := range b.Code[:len(b.Code)-1] {
				b.Code[i].N, b.Code[i].M = x.N+1, x.M+2
				if x.Op == api.OpConst {
					b.Code[i].A, b.Code[i].B, b.Code[i].Args = 7, 9, []int{11}
				}
			}
		}
		if !asked(g).same(asked(f)) {
			t.Errorf("%s isn't as with other kinds and numbers", shown(f))
		}
	}
}

// P11.1: an OpPoll asks for nothing, and sets nothing.
func TestPolled(t *testing.T) {
	for _, f := range few() {
		g := sample.Polled(f)
		for b, x := range f.Blocks {
			last := len(x.Code) - 1
			if len(g.Blocks[b].Code) == len(x.Code) {
				continue
			}
			want := live.Ahead(f, b, last)
			if !bitset.Same(live.Ahead(g, b, last), want) || !bitset.Same(live.Behind(g, b, last), want) || !bitset.Same(live.Ahead(g, b, last+1), want) {
				t.Errorf("around a poll in %d are live others than %v: %s", b, bitset.List(want), shown(f))
			}
			if !bitset.Same(live.In(g, b), live.In(f, b)) || !bitset.Same(live.Out(g, b), live.Out(f, b)) {
				t.Errorf("with polls others are live at the ends of %d: %s", b, shown(f))
			}
		}
	}
}

// P11.1, and rule 4 of P1: lists without anything may be nil or empty.
func TestEmpty(t *testing.T) {
	for _, f := range few() {
		if !asked(sample.Bare(f)).same(asked(f)) {
			t.Errorf("%s isn't as with lists without anything", shown(f))
		}
	}
	for _, l := range [][]int{nil, {}} {
		f := api.Func{Kinds: l, Base: l, Blocks: []api.Block{{Code: []api.Ins{jump(1)}}, {Code: []api.Ins{jump(1)}}}}
		for _, s := range asked(f).sets {
			if len(s) > 0 {
				t.Errorf("without variables %v are live", bitset.List(s))
			}
		}
	}
}

// Rule 1 of P1: calls end and don't panic, also at functions that may not be, of which nothing else is promised.
func TestAnything(t *testing.T) {
	numbers := append(sample.Far(), 0, 1, 2, 3, 4095, 4096, math.MaxInt-1)
	for _, n := range numbers {
		for _, m := range numbers {
			for op := -1; op < 30; op++ {
				f := sample.Odd(op, n, m)
				asked(f)
				live.In(f, n)
				live.Out(f, m)
				live.Ahead(f, n, m)
				live.Behind(f, n, m)
				live.Behind(f, 2, n)
				live.Is(f, 0, 0, n)
				live.Is(f, 3, n, m)
			}
		}
	}
	for _, f := range []api.Func{{}, {Blocks: []api.Block{}}, {Blocks: make([]api.Block, 41)}} {
		asked(f)
		for _, b := range append(numbers, 40) {
			nothing(t, f, b, 0)
			if len(live.In(f, b)) > 0 || len(live.Out(f, b)) > 0 {
				t.Errorf("something is live in %d, without code", b)
			}
		}
	}
}

// Rule 1 of P1: calls end, however many blocks and instructions there are.
func TestMany(t *testing.T) {
	const n = 1 << 16
	for _, l := range []sample.Ends{sample.Chain(n), sample.Round(n), sample.Rungs(n), sample.Nest(n)} {
		f := l.Function()
		f.Blocks[n-1].Code = slices.Insert(f.Blocks[n-1].Code, 0, ask(9))
		if !live.Is(f, 1, 0, 9) || live.Is(f, 1, 0, 8) || !bitset.Has(live.Out(f, 0), 9) {
			t.Errorf("of %d blocks, at the beginning of 1 are live %v", n, at(f, 1, 0))
		}
	}
	f := of(slices.Repeat([]api.Ins{add(3, 3, 2)}, n), []api.Ins{answer(3)})
	f.Blocks[0].Code[n-1] = jump(1)
	if l := at(f, 0, 0); !slices.Equal(l, []int{2, 3}) {
		t.Errorf("ahead of %d instructions are live %v", n, l)
	}
}

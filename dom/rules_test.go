package dom_test

import (
	"math"
	"reflect"
	"slices"
	"testing"

	"portolan/api"
	"portolan/dom"
	"portolan/sample"
)

// answers is what all calls answer.
type answers struct {
	above     []int
	all, kids [][]int
	meet      [][]int
	dominates [][]bool
}

// ask makes each call of a function, with each block, or each two.
func ask(f api.Func) answers {
	a := answers{above: dom.Above(f), dominates: dominates(f)}
	for b := range f.Blocks {
		a.all, a.kids = append(a.all, dom.All(f, b)), append(a.kids, dom.Kids(f, b))
		row := make([]int, len(f.Blocks))
		for c := range row {
			row[c] = dom.Meet(f, b, c)
		}
		a.meet = append(a.meet, row)
	}
	return a
}

// dominates is what the call of that name answers of each two blocks.
func dominates(f api.Func) [][]bool {
	d := make([][]bool, len(f.Blocks))
	for a := range d {
		d[a] = make([]bool, len(d))
		for b := range d {
			d[a][b] = dom.Dominates(f, a, b)
		}
	}
	return d
}

// same tells whether answers are alike.
func (a answers) same(b answers) bool {
	return slices.Equal(a.above, b.above) && slices.EqualFunc(a.all, b.all, slices.Equal) && slices.EqualFunc(a.kids, b.kids, slices.Equal) &&
		slices.EqualFunc(a.meet, b.meet, slices.Equal) && slices.EqualFunc(a.dominates, b.dominates, slices.Equal)
}

// copied is answers whose lists that calls made are of their own memory.
func (a answers) copied() answers {
	a.above, a.all, a.kids = slices.Clone(a.above), slices.Clone(a.all), slices.Clone(a.kids)
	for b := range a.all {
		a.all[b], a.kids[b] = slices.Clone(a.all[b]), slices.Clone(a.kids[b])
	}
	return a
}

// spoil writes into all lists that calls made, and into their spare room.
func (a answers) spoil() {
	for _, l := range append(slices.Concat(a.all, a.kids), a.above) {
		l = l[:cap(l)]
		for i := range l {
			l[i] = 99
		}
	}
}

// some is functions for the rules.
func some() []ends {
	return append(sample.Every(3), diamond(), ends{{3}, {1, 2}, nil, {2}}, sample.Round(9), sample.Rungs(40))
}

// P6.1, and rules 5 and 6 of P1: answers are new memory, share none with one another, and each call answers the same again.
func TestNewMemory(t *testing.T) {
	for _, l := range some() {
		f := l.Function()
		first, second := ask(f), ask(f)
		want := first.copied()
		if !second.same(want) {
			t.Fatalf("%v: %s, then %s", l, shown(first), shown(second))
		}
		second.spoil()
		if !first.same(want) || !ask(f).same(want) {
			t.Fatalf("%v: answers share memory", l)
		}
	}
}

// P6.1, and rule 5 of P1: what is handed in stays as it was, its spare room, too, and what stands there is not read.
func TestStays(t *testing.T) {
	for _, l := range some() {
		f := sample.Roomy(l.Function())
		before, want := sample.Whole(f), ask(l.Function())
		if a := ask(f); !a.same(want) {
			t.Errorf("%v answers %s", l, shown(a))
		}
		every(f, sample.Far())
		if !reflect.DeepEqual(sample.Whole(f), before) {
			t.Errorf("%s became %s", shown(before), shown(sample.Whole(f)))
		}
	}
}

// every makes each call of a function with such numbers.
func every(f api.Func, numbers []int) {
	dom.Above(f)
	for _, n := range numbers {
		dom.All(f, n)
		dom.Kids(f, n)
		for _, m := range numbers {
			dom.Dominates(f, n, m)
			dom.Meet(f, n, m)
		}
	}
}

// P6.1: answers hang on what blocks lead to alone.
func TestBlocksAlone(t *testing.T) {
	for _, l := range some() {
		f := l.Function()
		g := api.Func{Kinds: []int{1, 1, 0, 0, 2}, Base: []int{-1, -1, -1, -1, 0}, Params: 3, Result: 1}
		for _, b := range f.Blocks {
			code := append([]api.Ins{{Op: api.OpPrint, N: 2}}, b.Code...)
			g.Blocks = append(g.Blocks, api.Block{Code: code})
		}
		if a, b := ask(f), ask(g); !a.same(b) {
			t.Errorf("%v answers %s; of other code %s", l, shown(a), shown(b))
		}
	}
}

// Rule 1 of P1: calls end and don't panic, also at functions that may not be, of which nothing else is promised.
func TestAnything(t *testing.T) {
	numbers := append(sample.Far(), 0, 1, 2, 3, math.MaxInt-1)
	for _, n := range numbers {
		for _, m := range numbers {
			for op := 20; op < 25; op++ {
				every(sample.Odd(op, n, m), []int{n, m, 0, 3})
			}
		}
	}
	back := ends{{1, 0}, {2, 3}, {0}, {3, 1}}
	for _, f := range []api.Func{{}, {Blocks: []api.Block{}}, {Blocks: make([]api.Block, 41)}, back.Function()} {
		ask(f)
		every(f, numbers)
	}
}

// Rule 1 of P1: calls end, however many blocks there are.
func TestMany(t *testing.T) {
	const n = 1 << 16
	for _, l := range []ends{sample.Chain(n), sample.Round(n), sample.Rungs(n)} {
		f := l.Function()
		if up := dom.Above(f); len(up) != n || !dom.Dominates(f, 0, n-1) || dom.Meet(f, 1, n-1) != up[2] || len(dom.Kids(f, 0)) == 0 {
			t.Errorf("of %d blocks: %v ..", n, up[:4])
		}
		dom.All(f, n-1)
	}
}

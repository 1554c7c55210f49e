package loop_test

import (
	"math"
	"slices"
	"testing"

	"portolan/api"
	"portolan/dom"
	"portolan/loop"
	"portolan/point"
	"portolan/sample"
	"portolan/shape"
)

// example is the chapter's.
func example() ends {
	return ends{{1}, {2, 3}, {1}, nil}
}

// written is a function, and what is to be answered of it.
type written struct {
	l           ends
	turns, back [][2]int
	heads       []int
	body        [][]int
	deep        []int
	plain       bool
}

// nested is loops whose answers are written out: the chapter's example, no loop, a block that leads to itself, loops within one another and beside one another, and a head with several back edges.
func nested() []written {
	return []written{
		{
			l: example(), turns: [][2]int{{2, 1}}, back: [][2]int{{2, 1}}, heads: []int{1},
			body: [][]int{nil, {1, 2}, nil, nil}, deep: []int{0, 1, 1, 0}, plain: true,
		},
		{l: ends{nil}, body: [][]int{nil}, deep: []int{0}, plain: true},
		{l: ends{{1, 2}, {3}, {3}, nil}, body: make([][]int, 4), deep: []int{0, 0, 0, 0}, plain: true},
		{
			l: ends{{1}, {1, 1}}, turns: [][2]int{{1, 1}}, back: [][2]int{{1, 1}}, heads: []int{1},
			body: [][]int{nil, {1}}, deep: []int{0, 1}, plain: true,
		},
		{
			l:     ends{{1}, {2}, {2, 3}, {1, 4}, nil},
			turns: [][2]int{{2, 2}, {3, 1}}, back: [][2]int{{2, 2}, {3, 1}}, heads: []int{1, 2},
			body: [][]int{nil, {1, 2, 3}, {2}, nil, nil}, deep: []int{0, 1, 2, 1, 0}, plain: true,
		},
		{
			l:     ends{{1}, {2, 3}, {1, 2}, {4}, {4, 3}},
			turns: [][2]int{{2, 1}, {2, 2}, {4, 3}, {4, 4}}, back: [][2]int{{2, 1}, {2, 2}, {4, 3}, {4, 4}}, heads: []int{1, 2, 3, 4},
			body: [][]int{nil, {1, 2}, {2}, {3, 4}, {4}}, deep: []int{0, 1, 2, 1, 2}, plain: true,
		},
		{
			l:     ends{{5}, {5}, {5, 4}, nil, {1, 3}, {2}},
			turns: [][2]int{{1, 5}, {2, 5}}, back: [][2]int{{1, 5}, {2, 5}}, heads: []int{5},
			body: [][]int{nil, nil, nil, nil, nil, {1, 2, 4, 5}}, deep: []int{0, 1, 1, 0, 1, 1}, plain: true,
		},
	}
}

// crossed is functions whose answers are written out: ways round with two ways in, alone and within a loop, and blocks that are not reached, which lead into a loop and round.
func crossed() []written {
	return []written{
		{
			l: ends{{1, 2}, {2}, {1, 3}, nil}, turns: [][2]int{{2, 1}},
			body: make([][]int, 4), deep: []int{0, 0, 0, 0},
		},
		{
			l:     ends{{1}, {2, 3}, {3}, {2, 4}, {1, 5}, nil},
			turns: [][2]int{{3, 2}, {4, 1}}, back: [][2]int{{4, 1}}, heads: []int{1},
			body: [][]int{nil, {1, 2, 3, 4}, nil, nil, nil, nil}, deep: []int{0, 1, 1, 1, 1, 0},
		},
		{
			l:     ends{{1, 2}, {2}, {3, 4}, {2, 1}, nil},
			turns: [][2]int{{3, 1}, {3, 2}}, back: [][2]int{{3, 2}}, heads: []int{2},
			body: [][]int{nil, nil, {2, 3}, nil, nil}, deep: []int{0, 0, 1, 1, 0},
		},
		{
			l:     ends{{1}, {2, 3}, {1}, nil, {2, 1}, {4, 5}, {7}, {6}},
			turns: [][2]int{{2, 1}}, back: [][2]int{{2, 1}}, heads: []int{1},
			body: [][]int{nil, {1, 2}, nil, nil, nil, nil, nil, nil}, deep: []int{0, 1, 1, 0, 0, 0, 0, 0}, plain: true,
		},
		{
			l: ends{nil, {1, 2}, {1}}, body: make([][]int, 3), deep: []int{0, 0, 0}, plain: true,
		},
	}
}

// edges is such as are written out.
func edges(l [][2]int) []api.Edge {
	var out []api.Edge
	for _, e := range l {
		out = append(out, api.Edge{From: e[0], To: e[1]})
	}
	return out
}

// P7.1: all calls, of functions that are written out.
func TestWrittenOut(t *testing.T) {
	for _, x := range append(nested(), crossed()...) {
		want := answers{turns: edges(x.turns), back: edges(x.back), heads: x.heads, body: x.body, deep: x.deep, plain: x.plain}
		if got := ask(x.l.Function()); !got.same(want) {
			t.Errorf("%v answers %v; want %v", x.l, got, want)
		}
	}
}

// P7.1: which edge of a way round with two ways in turns back hangs on the order of a walk, not on which block has the lower number.
func TestTurns(t *testing.T) {
	for _, x := range []struct {
		l    ends
		want [][2]int
	}{
		{ends{{1, 2}, {2}, {1}}, [][2]int{{2, 1}}},
		{ends{{2, 1}, {2}, {1}}, [][2]int{{2, 1}}},
		{ends{{3, 2}, {3}, {1}, {2}}, [][2]int{{3, 2}}},
		{ends{{4, 3}, {3}, {1, 4}, {2}, {1}}, [][2]int{{1, 3}}},
		{ends{{2}, {3}, {3, 1}, {1, 2}}, [][2]int{{3, 1}, {3, 2}}},
		{ends{{3}, nil, {1}, {2}}, nil},
	} {
		if got := loop.Turns(x.l.Function()); !slices.Equal(got, edges(x.want)) {
			t.Errorf("Turns of %v = %v; want %v", x.l, got, x.want)
		}
	}
}

// stairs is blocks that lead to the one behind them and to the one ahead of them; the last one leads to itself, too.
func stairs(n int) ends {
	l := sample.Chain(n)
	for b := 2; b < n-1; b++ {
		l[b] = []int{b + 1, b - 1}
	}
	l[n-1] = []int{n - 1, n - 2}
	return l
}

// P7.1: as many blocks as there may be in one loop.
func TestRound(t *testing.T) {
	f := sample.Round(40).Function()
	if l := loop.Body(f, 1); len(l) != 39 || l[0] != 1 || l[38] != 39 {
		t.Errorf("Body = %v", l)
	}
	if l := loop.Back(f); !slices.Equal(l, edges([][2]int{{39, 1}})) {
		t.Errorf("Back = %v", l)
	}
}

// P7.1: loops far within one another, whose ends are apart, or are the same.
func TestNest(t *testing.T) {
	nest, steps := sample.Nest(40).Function(), stairs(40).Function()
	for b, deep := range loop.Deep(nest) {
		if deep != min(b, 39-b) {
			t.Errorf("%d is %d deep", b, deep)
		}
	}
	for b, deep := range loop.Deep(steps) {
		if deep != b {
			t.Errorf("%d is %d deep, where all go to the end", b, deep)
		}
	}
	for h := 1; h < 40; h++ {
		if l := loop.Body(nest, h); h < 20 && (len(l) != 40-2*h || l[0] != h || l[len(l)-1] != 39-h) {
			t.Errorf("Body of %d = %v", h, l)
		}
		if l := loop.Body(steps, h); len(l) != 40-h || l[0] != h || l[len(l)-1] != 39 {
			t.Errorf("Body of %d = %v, where all go to the end", h, l)
		}
	}
	if l := loop.Heads(nest); len(l) != 19 || l[0] != 1 || l[18] != 19 {
		t.Errorf("Heads = %v", l)
	}
	if l := loop.Heads(steps); len(l) != 39 || l[0] != 1 || l[38] != 39 {
		t.Errorf("Heads = %v, where all go to the end", l)
	}
}

// P7.1: all calls, of all small functions and many others, by a model apart from the package.
func TestModel(t *testing.T) {
	for _, l := range sample.Many() {
		f := l.Function()
		if shape.Check(api.Prog{Funcs: []api.Func{f}}) != api.OK {
			t.Fatalf("%v makes no program", l)
		}
		if got, want := ask(f), modelOf(l).answers(); !got.same(want) {
			t.Fatalf("%v answers %s; want %s", l, shown(got), shown(want))
		}
	}
}

// P7.1: all calls, of functions as layer 14 lays them, by a model apart from the package.
func TestLaid(t *testing.T) {
	laid := 0
	for n, l := range sample.Many() {
		if n%7 > 0 {
			continue
		}
		f, e := point.Lay(l.Function())
		if e != api.OK {
			continue
		}
		if got, want := ask(f), modelOf(sample.EndsOf(f)).answers(); !got.same(want) {
			t.Fatalf("%v, laid, answers %s; want %s", l, shown(got), shown(want))
		}
		laid++
	}
	if laid < 1000 {
		t.Errorf("%d functions alone were laid", laid)
	}
}

// P7.1: blocks that aren't there have no loop.
func TestNoBlock(t *testing.T) {
	for _, l := range append(some(), ends{nil}, sample.Round(40), sample.Nest(40)) {
		for _, b := range append(sample.Far(), len(l), len(l)+1, math.MaxInt-1) {
			if body := loop.Body(l.Function(), b); (b < 0 || b >= len(l)) && len(body) != 0 {
				t.Errorf("Body of %d, of %v = %v", b, l, body)
			}
		}
	}
}

// P7.2: without the edges that turn back no way comes back to a reached block.
func TestAllWaysRound(t *testing.T) {
	for _, l := range sample.Many() {
		turns := loop.Turns(l.Function())
		onward := make(ends, len(l))
		for a, to := range l {
			onward[a] = slices.DeleteFunc(slices.Clone(to), func(b int) bool { return slices.Contains(turns, api.Edge{From: a, To: b}) })
		}
		for _, b := range l.Reach() {
			comes := func(n int) bool { return slices.Contains(onward.From(n), b) }
			if slices.ContainsFunc(onward[b], comes) {
				t.Fatalf("of %v: a way comes back to %d along none of %v", l, b, turns)
			}
		}
	}
}

// P7.2: each back edge turns back, and a head dominates its loop.
func TestBack(t *testing.T) {
	for _, l := range sample.Many() {
		f := l.Function()
		turns := loop.Turns(f)
		for _, e := range loop.Back(f) {
			if !slices.Contains(turns, e) {
				t.Fatalf("of %v: %v doesn't turn back", l, e)
			}
		}
		for _, h := range loop.Heads(f) {
			for _, b := range loop.Body(f, h) {
				if !dom.Dominates(f, h, b) {
					t.Fatalf("of %v: %d is in the loop of %d", l, b, h)
				}
			}
		}
	}
}

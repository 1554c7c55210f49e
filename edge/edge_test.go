package edge_test

import (
	"reflect"
	"slices"
	"testing"

	"portolan/api"
	"portolan/code"
	"portolan/edge"
	"portolan/flow"
	"portolan/kind"
	"portolan/sample"
	"portolan/shape"
)

// written is a function, its critical edges, and what blocks lead to when these are split.
type written struct {
	l     ends
	edges [][2]int
	split ends
}

// writtenOut is functions whose answers are written out.
func writtenOut() []written {
	return []written{
		{ends{nil}, nil, ends{nil}},
		{ends{{1, 2}, {2}, nil}, [][2]int{{0, 2}}, ends{{1, 3}, {2}, nil, {2}}}, // the chapter's example
		{ends{{2, 1}, {2}, nil}, [][2]int{{0, 2}}, ends{{3, 1}, {2}, nil, {2}}},
		{ends{{1, 2}, {3}, {3}, nil}, nil, ends{{1, 2}, {3}, {3}, nil}},
		// blocks that lead to themselves
		{ends{{1}, {1, 2}, nil}, [][2]int{{1, 1}}, ends{{1}, {3, 2}, nil, {1}}},
		{ends{{1}, {2, 1}, nil}, [][2]int{{1, 1}}, ends{{1}, {2, 3}, nil, {1}}},
		{ends{{1}, {1}}, nil, ends{{1}, {1}}},
		{ends{nil, {1, 2}, nil}, nil, ends{nil, {1, 2}, nil}},
		// a branch to one block alone is one edge
		{ends{{1, 1}, {2, 2}, nil}, nil, ends{{1, 1}, {2, 2}, nil}},
		{ends{{2, 2}, {2, 2}, nil}, nil, ends{{2, 2}, {2, 2}, nil}},
		{ends{{1, 2}, {2, 2}, nil}, [][2]int{{0, 2}}, ends{{1, 3}, {2, 2}, nil, {2}}},
		// both edges of a branch
		{
			ends{{2, 1}, {1, 2}, nil}, [][2]int{{0, 1}, {0, 2}, {1, 1}, {1, 2}},
			ends{{4, 3}, {5, 6}, nil, {1}, {2}, {1}, {2}},
		},
		{
			ends{{1, 2}, {4, 3}, {3, 4}, nil, nil}, [][2]int{{1, 3}, {1, 4}, {2, 3}, {2, 4}},
			ends{{1, 2}, {6, 5}, {7, 8}, nil, nil, {3}, {4}, {3}, {4}},
		},
		// blocks that aren't reached lead on, too
		{ends{{1, 2}, nil, nil, {2}}, [][2]int{{0, 2}}, ends{{1, 4}, nil, nil, {2}, {2}}},
		{ends{{2}, {2, 3}, nil, nil}, [][2]int{{1, 2}}, ends{{2}, {4, 3}, nil, nil, {2}}},
		{ends{nil, {1, 2}, {2, 1}}, [][2]int{{1, 1}, {1, 2}, {2, 1}, {2, 2}}, ends{nil, {3, 4}, {6, 5}, {1}, {2}, {1}, {2}}},
		// a way round with two ways in, and one within another
		{ends{{1, 2}, {2}, {1, 3}, nil}, [][2]int{{0, 1}, {0, 2}, {2, 1}}, ends{{4, 5}, {2}, {6, 3}, nil, {1}, {2}, {1}}},
		{ends{{1}, {2}, {2, 3}, {1, 4}, nil}, [][2]int{{2, 2}, {3, 1}}, ends{{1}, {2}, {5, 3}, {6, 4}, nil, {2}, {1}}},
		// the first one by From, then To, wherever the branches lead first
		{ends{{3, 1}, {2, 3}, {3, 1}, nil}, [][2]int{{0, 1}, {0, 3}, {1, 3}, {2, 1}, {2, 3}}, ends{{5, 4}, {2, 6}, {8, 7}, nil, {1}, {3}, {3}, {1}, {3}}},
	}
}

// splits asks whether Critical and Split answer so.
func splits(t *testing.T, f api.Func, edges []api.Edge, want api.Func, e api.Errno) {
	t.Helper()
	if l := edge.Critical(f); !slices.Equal(l, edges) {
		t.Fatalf("Critical of %s = %v; want %v", shown(f), l, edges)
	}
	got, err := edge.Split(f)
	if err != e || !code.Same(one(got), one(want)) {
		t.Fatalf("%s becomes %s, %d; want %s, %d", shown(f), shown(got), err, shown(want), e)
	}
	if e != api.OK && !reflect.DeepEqual(got, api.Func{}) {
		t.Errorf("beside %d stands %v", e, got)
	}
}

// P13.1: of Critical and Split, functions that are written out.
func TestWrittenOut(t *testing.T) {
	for _, x := range writtenOut() {
		var edges []api.Edge
		for _, e := range x.edges {
			edges = append(edges, api.Edge{From: e[0], To: e[1]})
		}
		f := x.l.Function()
		if shape.Check(one(f)) != api.OK {
			t.Fatalf("%v makes no program", x.l)
		}
		splits(t, f, edges, x.split.Split(len(x.l)), api.OK)
	}
}

// P13.1: of Critical and Split, many functions, by a model apart from the package.
func TestModel(t *testing.T) {
	split, refused := 0, 0
	for _, p := range many() {
		for _, f := range p.Funcs {
			want, e := modelled(f)
			edges := critical(sample.EndsOf(f))
			splits(t, f, edges, want, e)
			if e != api.OK {
				refused++
			} else if len(edges) > 0 {
				split++
			}
		}
	}
	if split < 1000 || refused < 300 {
		t.Errorf("%d functions alone were split, and %d refused", split, refused)
	}
}

// fan is so many blocks, of which each one leads to the one behind it, and so many branches besides to the last one, by critical edges.
func fan(blocks, edges int) ends {
	l := sample.Chain(blocks)
	for b := range edges {
		l[b] = append(l[b], blocks-1)
	}
	return l
}

// P13.1: of Split, just as many blocks as there may be, and one more.
func TestLimit(t *testing.T) {
	for _, x := range []struct {
		blocks, edges int
		e             api.Errno
	}{
		{40, 0, api.OK}, {40, 1, api.ErrLimit}, {40, 38, api.ErrLimit},
		{39, 0, api.OK}, {39, 1, api.OK}, {39, 2, api.ErrLimit},
		{30, 9, api.OK}, {30, 10, api.OK}, {30, 11, api.ErrLimit},
		{21, 18, api.OK}, {21, 19, api.OK}, {22, 18, api.OK}, {22, 19, api.ErrLimit}, {22, 20, api.ErrLimit},
	} {
		l := fan(x.blocks, x.edges)
		f := l.Function()
		want, e := modelled(f)
		if e != x.e || len(critical(l)) != x.edges {
			t.Fatalf("of %v the model is wrong", x)
		}
		splits(t, f, critical(l), want, e)
		if g, _ := edge.Split(f); e == api.OK && len(g.Blocks) != x.blocks+x.edges {
			t.Errorf("of %v there are %d blocks", x, len(g.Blocks))
		}
	}
	// As many as there may be, where nearly all edges are critical.
	for n, e := range map[int]api.Errno{14: api.OK, 15: api.OK, 16: api.ErrLimit, 40: api.ErrLimit} {
		g, err := edge.Split(sample.Rungs(n).Function())
		if err != e || e == api.OK && len(g.Blocks) != 3*n-5 {
			t.Errorf("of %d rungs: %d blocks, %d", n, len(g.Blocks), err)
		}
	}
}

// P13.1: of Split, blocks that are as long as there may be stay so.
func TestLongBlocks(t *testing.T) {
	f := ends{{2, 1}, {1, 2}, nil}.Function()
	for b, x := range f.Blocks {
		more := slices.Repeat([]api.Ins{{Op: api.OpCall, D: 1, A: 2, B: 3, N: 1, M: 2, Args: []int{1, 2, 3, 4}}}, api.MaxCode-len(x.Code))
		f.Blocks[b].Code = append(more, x.Code...)
	}
	want, _ := modelled(f)
	splits(t, f, critical(sample.EndsOf(f)), want, api.OK)
}

// P13.1: of Whole, each function of many programs is split, and of none that isn't split is anything answered.
func TestWhole(t *testing.T) {
	refused := 0
	for _, p := range many() {
		var want api.Prog
		e := api.OK
		for _, f := range p.Funcs {
			f, err := modelled(f)
			want.Funcs = append(want.Funcs, f)
			e = max(e, err)
		}
		if e != api.OK {
			want = api.Prog{}
			refused++
		}
		whole(t, p, want, e)
	}
	if refused < 300 {
		t.Errorf("%d programs alone were refused", refused)
	}
}

// whole asks whether Whole answers so.
func whole(t *testing.T, p, want api.Prog, e api.Errno) {
	t.Helper()
	got, err := edge.Whole(p)
	if err != e || !code.Same(got, want) {
		t.Fatalf("%s becomes %s, %d; want %s, %d", shown(p), shown(got), err, shown(want), e)
	}
	if e != api.OK && !reflect.DeepEqual(got, api.Prog{}) {
		t.Errorf("beside %d stands %v", e, got)
	}
}

// P13.1: of Whole, as many functions as there may be, of which any may be too great.
func TestWholeLimit(t *testing.T) {
	fits, great := fan(39, 1).Function(), fan(39, 2).Function()
	split, _ := modelled(fits)
	whole(t, api.Prog{}, api.Prog{}, api.OK)
	for n := 1; n <= 8; n++ {
		p := api.Prog{Funcs: slices.Repeat([]api.Func{fits}, n)}
		whole(t, p, api.Prog{Funcs: slices.Repeat([]api.Func{split}, n)}, api.OK)
		for i := range n {
			p.Funcs[i] = great
			whole(t, p, api.Prog{}, api.ErrLimit)
			p.Funcs[(i+3)%n] = great
			whole(t, p, api.Prog{}, api.ErrLimit)
			p.Funcs[i], p.Funcs[(i+3)%n] = fits, fits
		}
	}
}

// through is where n leads on to in what was split of so many blocks: a new block to the one that it jumps to, any other one is what it is.
func through(g api.Func, blocks, n int) int {
	if n < blocks {
		return n
	}
	return g.Blocks[n].Code[0].N
}

// leadsOn asks whether g's first blocks are f's, and lead to the same ones, through the new ones, each of which stands on one edge, and jumps.
func leadsOn(t *testing.T, f, g api.Func) {
	t.Helper()
	n := len(f.Blocks)
	for b, x := range f.Blocks {
		at := len(x.Code) - 1
		got, want := g.Blocks[b].Code[at], x.Code[at]
		got.N, got.M = through(g, n, got.N), through(g, n, got.M)
		if len(g.Blocks[b].Code) != len(x.Code) || !reflect.DeepEqual(got, want) {
			t.Fatalf("block %d of %s leads on as %v", b, shown(g), got)
		}
		for i, y := range x.Code[:at] {
			if !reflect.DeepEqual(g.Blocks[b].Code[i], y) {
				t.Fatalf("block %d of %s isn't what it was", b, shown(g))
			}
		}
	}
	for b := n; b < len(g.Blocks); b++ {
		if l := g.Blocks[b].Code; len(l) != 1 || l[0].Op != api.OpJump || l[0].N >= n || len(flow.Prev(g, b)) != 1 {
			t.Fatalf("the new block %d is %v: %s", b, l, shown(g))
		}
	}
}

// P13.2: what was split has no critical edge, stays as it is when it is split again, may be, and leads on as before; of all small functions, and many others.
func TestNoneLeft(t *testing.T) {
	for _, p := range many() {
		q, e := edge.Whole(p)
		if e != api.OK {
			continue
		}
		if shape.Check(p) != api.OK || shape.Check(q) != api.OK || kind.Check(p) != kind.Check(q) {
			t.Fatalf("%s becomes %s, which may not be as it may", shown(p), shown(q))
		}
		for i, f := range p.Funcs {
			g := q.Funcs[i]
			if len(critical(sample.EndsOf(g))) > 0 || len(edge.Critical(g)) > 0 {
				t.Fatalf("critical edges of %s are left: %v", shown(f), edge.Critical(g))
			}
			leadsOn(t, f, g)
		}
		whole(t, q, q, api.OK)
	}
}

package point_test

import (
	"math"
	"reflect"
	"slices"
	"testing"

	"portolan/api"
	"portolan/code"
	"portolan/edge"
	"portolan/flow"
	"portolan/loop"
	"portolan/point"
	"portolan/sample"
	"portolan/shape"
)

// written is a function, what blocks lead to when it is split, and which of them are polled.
type written struct {
	l, split ends
	polls    []int
}

// plain is functions whose answers are written out: each loop has one way in.
func plain() []written {
	return []written{
		{ends{{1}, {1, 2}, nil}, ends{{1}, {3, 2}, nil, {1}}, []int{3}}, // the chapter's example
		{ends{{1}, {2, 1}, nil}, ends{{1}, {2, 3}, nil, {1}}, []int{3}},
		// no way round
		{ends{nil}, ends{nil}, nil},
		{ends{{1, 2}, {3}, {3}, nil}, ends{{1, 2}, {3}, {3}, nil}, nil},
		{ends{{1, 2}, {2}, nil}, ends{{1, 3}, {2}, nil, {2}}, nil},
		{ends{{3}, nil, {1}, {2}}, ends{{3}, nil, {1}, {2}}, nil},
		// ways back that aren't split
		{ends{{1}, {1}}, ends{{1}, {1}}, []int{1}},
		{ends{{1}, {2, 3}, {1}, nil}, ends{{1}, {2, 3}, {1}, nil}, []int{2}},
		{ends{{2}, nil, {3, 1}, {2}}, ends{{2}, nil, {3, 1}, {2}}, []int{3}},
		// a branch to one block alone, ahead of it
		{ends{{1}, {2}, {1, 1}}, ends{{1}, {2}, {1, 1}}, []int{2}},
		{ends{{1}, {1, 1}}, ends{{1}, {1, 1}}, []int{1}},
		// both edges of a branch turn back
		{ends{{1}, {2}, {1, 2}}, ends{{1}, {2}, {3, 4}, {1}, {2}}, []int{3, 4}},
		// two blocks lead back to one
		{ends{{1}, {2, 3}, {1}, {1, 4}, nil}, ends{{1}, {2, 3}, {1}, {5, 4}, nil, {1}}, []int{2, 5}},
		// a way round within another one, and one behind it
		{ends{{1}, {2}, {2, 3}, {1, 4}, nil}, ends{{1}, {2}, {5, 3}, {6, 4}, nil, {2}, {1}}, []int{5, 6}},
		{ends{{1}, {1, 2}, {2}}, ends{{1}, {3, 4}, {2}, {1}, {2}}, []int{2, 3}},
		{ends{{1}, {2, 4}, {3, 2}, {1}, nil}, ends{{1}, {5, 4}, {3, 6}, {1}, nil, {2}, {2}}, []int{3, 6}},
	}
}

// crossed is functions whose answers are written out: ways round with two ways in, and blocks that aren't reached.
func crossed() []written {
	return []written{
		{ends{{1, 2}, {2}, {1, 3}, nil}, ends{{4, 5}, {2}, {6, 3}, nil, {1}, {2}, {1}}, []int{6}},
		{ends{{2, 1}, {2}, {1}}, ends{{4, 3}, {2}, {1}, {1}, {2}}, []int{2}},
		// what turns back in what was split, where the walk meets 2 ahead of the new block: 1 to 3; in the function itself 3 to 1 would
		{ends{{1, 2}, {3}, {3}, {1}}, ends{{4, 2}, {3}, {3}, {1}, {1}}, []int{1}},
		{ends{{2, 1}, {3}, {3}, {1}}, ends{{2, 4}, {3}, {3}, {1}, {1}}, []int{1}},
		// ways round of blocks that aren't reached don't turn back, nor does what leads from there into a way round
		{ends{nil, {1}}, ends{nil, {1}}, nil},
		{ends{{1}, {1}, {1}}, ends{{1}, {1}, {1}}, []int{1}},
		{ends{{2}, {2, 1}, nil}, ends{{2}, {3, 1}, nil, {2}}, nil},
		{ends{nil, {1, 2}, {2, 1}}, ends{nil, {3, 4}, {6, 5}, {1}, {2}, {1}, {2}}, nil},
		{ends{{2}, {2}, {2, 3}, nil}, ends{{2}, {2}, {4, 3}, nil, {2}}, []int{4}},
	}
}

// lays asks whether Lay answers so.
func lays(t *testing.T, f, want api.Func, e api.Errno) {
	t.Helper()
	got, err := point.Lay(f)
	if err != e || !code.Same(one(got), one(want)) {
		t.Fatalf("%s becomes %s, %d; want %s, %d", shown(f), shown(got), err, shown(want), e)
	}
	if e != api.OK && !reflect.DeepEqual(got, api.Func{}) {
		t.Errorf("beside %d stands %v", e, got)
	}
}

// P14.1: of Lay, functions that are written out.
func TestWrittenOut(t *testing.T) {
	for _, x := range slices.Concat(plain(), crossed()) {
		f := x.l.Function()
		if shape.Check(one(f)) != api.OK {
			t.Fatalf("%v makes no program", x.l)
		}
		lays(t, f, polled(x.split.Split(len(x.l)), x.polls), api.OK)
	}
}

// P14.1: what is laid, instruction by instruction: behind all others of the block, ahead of its last one, with nothing but its Op.
func TestPoll(t *testing.T) {
	f := ends{{1}, {1, 2}, nil}.Function()
	f.Blocks[1].Code = []api.Ins{{Op: 10, D: 1, N: 2, M: 3}, {Op: 20, A: 0}, {Op: 22, A: 0, N: 1, M: 2}}
	g, e := point.Lay(f)
	want := []api.Block{
		{Code: []api.Ins{{Op: 21, N: 1}}},
		{Code: []api.Ins{{Op: 10, D: 1, N: 2, M: 3}, {Op: 20, A: 0}, {Op: 22, A: 0, N: 3, M: 2}}},
		f.Blocks[2],
		{Code: []api.Ins{{Op: 24}, {Op: 21, N: 1}}},
	}
	if e != api.OK || !reflect.DeepEqual(g.Blocks, want) {
		t.Errorf("%v becomes %v, %d; want %v", f, g, e, want)
	}
	f.Blocks[1].Code[2] = api.Ins{Op: 21, N: 1}
	g, e = point.Lay(f)
	want[1].Code[2], want = api.Ins{Op: 24}, want[:3]
	want[1].Code = append(want[1].Code, api.Ins{Op: 21, N: 1})
	if e != api.OK || !reflect.DeepEqual(g.Blocks, want) {
		t.Errorf("%v becomes %v, %d; want %v", f, g, e, want)
	}
}

// P14.1: of Lay, many functions, by a model apart from the package.
func TestModel(t *testing.T) {
	laid, split, long := 0, 0, 0
	for _, p := range many() {
		for _, f := range p.Funcs {
			want, e := modelled(f)
			lays(t, f, want, e)
			_, err := edge.Split(f)
			switch {
			case err != api.OK:
				split++
			case e != api.OK:
				long++
			case len(points(want)) > len(points(f)):
				laid++
			}
		}
	}
	if laid < 10000 || split < 1000 || long < 200 {
		t.Errorf("polls were laid in %d functions alone, %d were refused by layer 13, and %d for long blocks", laid, split, long)
	}
}

// P14.1: of Lay, a block of just as many instructions as there may be, and of one more.
func TestLongBlocks(t *testing.T) {
	for _, x := range []struct {
		l    ends
		b    int
		full api.Errno // of a block of 40 instructions
	}{
		{ends{nil}, 0, api.OK},
		{ends{{1}, {1}}, 0, api.OK},
		{ends{{1}, {1}}, 1, api.ErrLimit},
		{ends{{1}, {2}, {1, 1}}, 2, api.ErrLimit},
		{ends{{1}, {2}, {1, 1}}, 1, api.OK},
		{ends{{1}, {1, 2}, nil}, 1, api.OK}, // the poll stands in the new block
		{ends{{1}, {1, 2}, nil}, 2, api.OK},
		{ends{{1}, {2, 3}, {1}, nil}, 2, api.ErrLimit},
		{ends{{1}, {2, 3}, {1}, nil}, 1, api.OK},
		{ends{{1, 2}, {3}, {3}, {1}}, 1, api.ErrLimit},
		{ends{{1, 2}, {3}, {3}, {1}}, 3, api.OK},
		{ends{nil, {1}}, 1, api.OK}, // it isn't reached
		{ends{{1}, {1}, {1}}, 2, api.OK},
		{sample.Round(40), 39, api.ErrLimit},
		{sample.Round(40), 38, api.OK},
		{sample.Round(40), 1, api.OK},
	} {
		for size := 1; size <= 40; size++ {
			f := padded(x.l.Function(), x.b, size)
			want, e := modelled(f)
			if size < 40 && e != api.OK || size == 40 && e != x.full {
				t.Fatalf("of %v the model is wrong", x)
			}
			lays(t, f, want, e)
		}
	}
}

// P14.1: of Lay, layer 13's limit: just as many blocks as there may be, and one more.
func TestManyBlocks(t *testing.T) {
	for _, x := range []struct {
		l      ends
		blocks int // 0, where it is refused
		polls  int
	}{
		{sample.Chain(40), 40, 0},
		{sample.Round(40), 40, 1},
		{sample.Rungs(15), 40, 0},
		{sample.Rungs(16), 0, 0},
		{sample.Nest(26), 38, 12},
		{sample.Nest(28), 0, 0},
		{sample.Nest(40), 0, 0},
	} {
		g, e := point.Lay(x.l.Function())
		if (e == api.OK) != (x.blocks > 0) || e != api.OK && e != api.ErrLimit || len(g.Blocks) != x.blocks {
			t.Errorf("%v has %d blocks then, %d; want %d", x.l, len(g.Blocks), e, x.blocks)
		}
		is := func(b api.Block) bool { return len(b.Code) > 1 && b.Code[len(b.Code)-2].Op == 24 }
		if n := len(slices.DeleteFunc(g.Blocks, func(b api.Block) bool { return !is(b) })); n != x.polls {
			t.Errorf("%v has %d polls then; want %d", x.l, n, x.polls)
		}
	}
}

// P14.1: of Lay, as many instructions as there may be in all.
func TestGreatest(t *testing.T) {
	f := sample.Round(40).Function()
	for b := range f.Blocks {
		f = padded(f, b, 40)
	}
	lays(t, f, api.Func{}, api.ErrLimit)
	f = padded(f, 39, 39)
	lays(t, f, polled(f, []int{39}), api.OK)
	if g, _ := point.Lay(f); flow.Size(g) != 1600 {
		t.Errorf("there are %d instructions", flow.Size(g))
	}
}

// whole asks whether Whole answers so.
func whole(t *testing.T, p, want api.Prog, e api.Errno) {
	t.Helper()
	got, err := point.Whole(p)
	if err != e || !code.Same(got, want) {
		t.Fatalf("%s becomes %s, %d; want %s, %d", shown(p), shown(got), err, shown(want), e)
	}
	if e != api.OK && !reflect.DeepEqual(got, api.Prog{}) {
		t.Errorf("beside %d stands %v", e, got)
	}
}

// P14.1: of Whole, each function of many programs is laid, and of none that isn't is anything answered.
func TestWhole(t *testing.T) {
	refused := 0
	for _, p := range many() {
		var want api.Prog
		e := api.OK
		for _, f := range p.Funcs {
			f, err := modelled(f)
			want.Funcs = append(want.Funcs, f)
			e = max(e, err)
		}
		if e != api.OK {
			want = api.Prog{}
			refused++
		}
		whole(t, p, want, e)
	}
	if refused < 300 {
		t.Errorf("%d programs alone were refused", refused)
	}
}

// P14.1: of Whole, as many functions as there may be, of which any may be too great, in either way.
func TestWholeLimit(t *testing.T) {
	fits, blocks := padded(sample.Round(9).Function(), 8, 39), sample.Nest(40).Function()
	long, laid := padded(fits, 8, 40), polled(fits, []int{8})
	whole(t, api.Prog{}, api.Prog{}, api.OK)
	for n := 1; n <= 8; n++ {
		p := api.Prog{Funcs: slices.Repeat([]api.Func{fits}, n)}
		whole(t, p, api.Prog{Funcs: slices.Repeat([]api.Func{laid}, n)}, api.OK)
		for i := range n {
			for _, f := range []api.Func{long, blocks} {
				p.Funcs[i] = f
				whole(t, p, api.Prog{}, api.ErrLimit)
				p.Funcs[(i+3)%n] = long
				whole(t, p, api.Prog{}, api.ErrLimit)
				p.Funcs[i], p.Funcs[(i+3)%n] = fits, fits
			}
		}
	}
}

// P14.1: of Is, all operations, and numbers that are none.
func TestIs(t *testing.T) {
	for op := -40; op < 300; op++ {
		if want := op == 10 || op == 19 || op == 24; point.Is(op) != want {
			t.Errorf("Is(%d) isn't %t", op, want)
		}
	}
	for _, op := range append(sample.Far(), 1<<32+10, 1<<32+24, 1<<8+19, -10, -19, -24) {
		if point.Is(op) {
			t.Errorf("Is(%d)", op)
		}
	}
}

// P14.1: of Points and Number, what is written out: no other instruction counts, blocks that aren't reached do.
func TestPoints(t *testing.T) {
	f := api.Func{Blocks: []api.Block{
		{Code: []api.Ins{{Op: 1}, {Op: 10}, {Op: 19}, {Op: 22, N: 2, M: 1}}},
		{Code: []api.Ins{{Op: 24}, {Op: 21, N: 1}}},
		{Code: []api.Ins{{Op: 12}, {Op: 23}}},
		{},
		{Code: []api.Ins{{Op: 10}, {Op: 10}, {Op: 20}, {Op: 24}, {Op: 21, N: 4}}},
		{Code: []api.Ins{{Op: 24}, {Op: 19}}},
	}}
	var want []api.Place
	for n, x := range [][2]int{{0, 1}, {0, 2}, {1, 0}, {4, 0}, {4, 1}, {4, 3}, {5, 0}, {5, 1}} {
		want = append(want, api.Place{Block: x[0], At: x[1]})
		if got := point.Number(f, x[0], x[1]); got != n {
			t.Errorf("Number of %v = %d; want %d", x, got, n)
		}
	}
	if l := point.Points(f); !slices.Equal(l, want) {
		t.Errorf("Points = %v; want %v", l, want)
	}
	for _, x := range [][2]int{{0, 0}, {0, 3}, {0, 4}, {1, 1}, {1, 2}, {2, 0}, {2, 1}, {3, 0}, {4, 2}, {4, 4}, {5, 2}, {6, 0}, {7, 3}, {-1, 0}, {0, -1}, {-1, -1}} {
		if got := point.Number(f, x[0], x[1]); got != -1 {
			t.Errorf("Number of %v = %d; want -1", x, got)
		}
	}
}

// P14.1: of Points and Number, each operation alone.
func TestPointsOfOne(t *testing.T) {
	for op := -1; op < 30; op++ {
		var want []api.Place
		n := -1
		if op == 10 || op == 19 || op == 24 {
			want, n = []api.Place{{}}, 0
		}
		f := api.Func{Blocks: []api.Block{{Code: []api.Ins{{Op: op}}}}}
		if l := point.Points(f); !slices.Equal(l, want) || point.Number(f, 0, 0) != n {
			t.Errorf("of %d are the points %v; want %v", op, l, want)
		}
	}
}

// numbered asks for a function's points, and for the number of each place, and of places that aren't there.
func numbered(t *testing.T, f api.Func) {
	t.Helper()
	want := points(f)
	if l := point.Points(f); !slices.Equal(l, want) {
		t.Fatalf("Points of %s = %v; want %v", shown(f), l, want)
	}
	for b := -1; b <= len(f.Blocks); b++ {
		size := 0
		if 0 <= b && b < len(f.Blocks) {
			size = len(f.Blocks[b].Code)
		}
		for i := -1; i <= size; i++ {
			if n := point.Number(f, b, i); n != slices.Index(want, api.Place{Block: b, At: i}) {
				t.Fatalf("Number of %d of %d = %d: %s", i, b, n, shown(f))
			}
		}
	}
	for _, n := range append(sample.Far(), math.MaxInt-1) {
		if point.Number(f, n, 0) != -1 || point.Number(f, 0, n) != -1 || point.Number(f, n, n) != -1 {
			t.Fatalf("something has a number at %d: %s", n, shown(f))
		}
	}
}

// P14.1: of Points and Number, many functions, and what is laid of them.
func TestNumbers(t *testing.T) {
	for i, p := range many() {
		if i%3 > 0 && len(p.Funcs) == 1 {
			continue
		}
		for _, f := range p.Funcs {
			numbered(t, f)
			if g, e := point.Lay(f); e == api.OK {
				numbered(t, g)
			}
		}
	}
	f := api.Func{Blocks: slices.Repeat([]api.Block{{Code: slices.Repeat([]api.Ins{{Op: 10}}, 40)}}, 40)}
	if l := point.Points(f); len(l) != 1600 || point.Number(f, 39, 39) != 1599 {
		t.Errorf("there are %d points", len(l))
	}
	numbered(t, f)
}

// P14.2: in what was laid each way that comes back to a reached block goes through a poll.
func TestNoWayRoundWithout(t *testing.T) {
	rounds := 0
	for _, p := range many() {
		for _, f := range p.Funcs {
			g, e := point.Lay(f)
			if e != api.OK {
				continue
			}
			l := sample.EndsOf(g)
			cut := slices.Clone(l)
			for b, x := range g.Blocks {
				if slices.ContainsFunc(x.Code, func(x api.Ins) bool { return x.Op == 24 }) {
					cut[b] = nil
					rounds++
				}
			}
			for _, b := range l.Reach() {
				comes := func(n int) bool { return slices.Contains(cut.From(n), b) }
				if slices.ContainsFunc(cut[b], comes) {
					t.Fatalf("a way comes back to %d without a poll: %s", b, shown(g))
				}
			}
		}
	}
	if rounds < 10000 {
		t.Errorf("there are %d polls alone", rounds)
	}
}

// P14.2: without its polls, what was laid is what was split.
func TestWithoutPolls(t *testing.T) {
	for _, p := range many() {
		for _, f := range p.Funcs {
			g, e := point.Lay(f)
			want, _ := edge.Split(f)
			if e == api.OK && !code.Same(one(unpolled(g)), one(want)) {
				t.Fatalf("%s becomes %s; want %s, but for polls", shown(f), shown(g), shown(want))
			}
		}
	}
}

// P14.2: a block from which an edge turns back has no other edge, and one poll, ahead of its last instruction; no other block has one.
func TestNoOtherEdge(t *testing.T) {
	for _, p := range many() {
		for _, f := range p.Funcs {
			g, e := point.Lay(f)
			if e != api.OK {
				continue
			}
			var back []int
			for _, x := range loop.Turns(g) {
				back = append(back, x.From)
				if len(flow.Next(g, x.From)) != 1 {
					t.Fatalf("%d has more edges than %v: %s", x.From, x, shown(g))
				}
			}
			for b, x := range g.Blocks {
				at := slices.IndexFunc(x.Code, func(x api.Ins) bool { return x.Op == 24 })
				turns := slices.Contains(back, b)
				if turns && at != len(x.Code)-2 || !turns && at >= 0 {
					t.Fatalf("the poll of %d is at %d: %s", b, at, shown(g))
				}
			}
		}
	}
}

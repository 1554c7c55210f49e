package dom_test

import (
	"math"
	"slices"
	"testing"

	"portolan/api"
	"portolan/dom"
	"portolan/sample"
	"portolan/shape"
)

// diamond is the chapter's example.
func diamond() ends {
	return ends{{1, 2}, {3}, {3}, nil}
}

// written is a function, and what is to be answered of it.
type written struct {
	l         ends
	above     []int
	all, kids [][]int
	meet      [][]int
}

// writtenOut is functions whose answers are written out: the chapter's example, ways back, ways into the midst of a way round, blocks that are not reached, and blocks whose numbers fall on a way.
func writtenOut() []written {
	return []written{
		{l: ends{nil}, above: []int{-1}, all: [][]int{{0}}, kids: [][]int{nil}, meet: [][]int{{0}}},
		{
			l: diamond(), above: []int{-1, 0, 0, 0},
			all:  [][]int{{0}, {0, 1}, {0, 2}, {0, 3}},
			kids: [][]int{{1, 2, 3}, nil, nil, nil},
			meet: [][]int{{0, 0, 0, 0}, {0, 1, 0, 0}, {0, 0, 2, 0}, {0, 0, 0, 3}},
		},
		{
			l: ends{{1}, {4, 2}, {3}, {1}, nil, {4}}, above: []int{-1, 0, 1, 2, 1, -1},
			all:  [][]int{{0}, {0, 1}, {0, 1, 2}, {0, 1, 2, 3}, {0, 1, 4}, nil},
			kids: [][]int{{1}, {2, 4}, {3}, nil, nil, nil},
			meet: [][]int{{0, 0, 0, 0, 0, -1}, {0, 1, 1, 1, 1, -1}, {0, 1, 2, 2, 1, -1}, {0, 1, 2, 3, 1, -1}, {0, 1, 1, 1, 4, -1}, {-1, -1, -1, -1, -1, -1}},
		},
		{
			l: ends{{1, 2}, {2}, {1, 3}, nil}, above: []int{-1, 0, 0, 2},
			all:  [][]int{{0}, {0, 1}, {0, 2}, {0, 2, 3}},
			kids: [][]int{{1, 2}, nil, {3}, nil},
			meet: [][]int{{0, 0, 0, 0}, {0, 1, 0, 0}, {0, 0, 2, 2}, {0, 0, 2, 3}},
		},
		{
			l: ends{{3}, {1, 2}, nil, {2}}, above: []int{-1, -1, 3, 0},
			all:  [][]int{{0}, nil, {0, 2, 3}, {0, 3}},
			kids: [][]int{{3}, nil, nil, {2}},
			meet: [][]int{{0, -1, 0, 0}, {-1, -1, -1, -1}, {0, -1, 2, 3}, {0, -1, 3, 3}},
		},
		{
			l: ends{{4}, nil, {1, 1}, {2}, {3}}, above: []int{-1, 2, 3, 4, 0},
			all:  [][]int{{0}, {0, 1, 2, 3, 4}, {0, 2, 3, 4}, {0, 3, 4}, {0, 4}},
			kids: [][]int{{4}, nil, {1}, {2}, {3}},
			meet: [][]int{{0, 0, 0, 0, 0}, {0, 1, 2, 3, 4}, {0, 2, 2, 3, 4}, {0, 3, 3, 3, 4}, {0, 4, 4, 4, 4}},
		},
	}
}

// P6.1: all calls, of functions that are written out.
func TestWrittenOut(t *testing.T) {
	for _, x := range writtenOut() {
		want := answers{above: x.above, all: x.all, kids: x.kids, meet: x.meet}
		for a := range x.l {
			row := make([]bool, len(x.l))
			for b := range x.l {
				row[b] = slices.Contains(x.all[b], a)
			}
			want.dominates = append(want.dominates, row)
		}
		if got := ask(x.l.Function()); !got.same(want) {
			t.Errorf("%v answers %v; want %v", x.l, got, want)
		}
	}
}

// P6.1: what comes ahead of a block may go elsewhere once ways back are seen.
func TestAbove(t *testing.T) {
	for _, x := range []struct {
		l    ends
		want []int
	}{
		{ends{{1, 2}, {5}, {4, 3}, {4}, {5, 3}, {4}}, []int{-1, 0, 0, 0, 0, 0}},
		{ends{{1, 3}, {2}, {4}, {4}, {2, 5}, nil}, []int{-1, 0, 0, 0, 0, 4}},
		{ends{{2}, nil, {3, 4}, {5}, {5}, {1, 2}}, []int{-1, 5, 0, 2, 2, 2}},
		{ends{{1}, {1, 1}}, []int{-1, 0}},
		{ends{{1, 1}, {2, 3}, {1, 3}, {2, 4}, nil}, []int{-1, 0, 1, 1, 3}},
	} {
		if got := dom.Above(x.l.Function()); !slices.Equal(got, x.want) {
			t.Errorf("Above of %v = %v; want %v", x.l, got, x.want)
		}
	}
	for b, up := range dom.Above(sample.Round(40).Function()) {
		if up != b-1 {
			t.Errorf("%d is above %d", up, b)
		}
	}
	for b, up := range dom.Above(sample.Rungs(40).Function())[1:] {
		if up != 0 {
			t.Errorf("%d is above %d", up, b+1)
		}
	}
}

// P6.1: the next above, of all small functions and many others, by a model apart from the package.
func TestModel(t *testing.T) {
	for _, l := range sample.Many() {
		f, m := l.Function(), modelOf(l)
		if shape.Check(api.Prog{Funcs: []api.Func{f}}) != api.OK {
			t.Fatalf("%v makes no program", l)
		}
		for b, up := range dom.Above(f) {
			if up != m.above(b) {
				t.Fatalf("Above of %v = %v; want %d above %d", l, dom.Above(f), m.above(b), b)
			}
		}
	}
}

// P6.1: all calls, of each block and each two of them, by the model.
func TestModelOfTwo(t *testing.T) {
	for _, l := range append(sample.Every(4), samples()...) {
		if got, want := ask(l.Function()), modelOf(l).answers(); !got.same(want) {
			t.Fatalf("%v answers %s; want %s", l, shown(got), shown(want))
		}
	}
}

// samples is few enough functions that each two of their blocks may be asked for.
func samples() []ends {
	great := slices.DeleteFunc(sample.Great(), func(l ends) bool { return len(l) > 12 })
	return slices.Concat(sample.Every(1), sample.Every(2), sample.Every(3), great, sample.Most())
}

// P6.1: blocks that aren't there dominate nothing, are dominated by none, and are above none.
func TestNoBlock(t *testing.T) {
	for _, l := range []ends{{nil}, {nil, nil}, diamond(), sample.Round(5), sample.Chain(40), {{3}, {1, 2}, nil, {2}}} {
		f := l.Function()
		for _, n := range append(sample.Far(), len(l), len(l)+1, math.MaxInt-1) {
			if n >= 0 && n < len(l) {
				continue
			}
			for b := range l {
				if dom.Dominates(f, n, b) || dom.Dominates(f, b, n) || dom.Meet(f, n, b) != -1 || dom.Meet(f, b, n) != -1 {
					t.Errorf("of %v: %d beside %d", l, n, b)
				}
			}
			if dom.Dominates(f, n, n) || dom.Meet(f, n, n) != -1 || len(dom.All(f, n)) != 0 || len(dom.Kids(f, n)) != 0 {
				t.Errorf("of %v: %d", l, n)
			}
		}
	}
}

// P6.2: what dominates one that dominates, dominates; of two that dominate one block one dominates the other.
func TestDominate(t *testing.T) {
	for _, l := range samples() {
		d := dominates(l.Function())
		for c := range l {
			for b := range l {
				for a := range l {
					if d[a][b] && d[b][c] && !d[a][c] || d[a][c] && d[b][c] && !d[a][b] && !d[b][a] {
						t.Fatalf("of %v: %d, %d, %d", l, a, b, c)
					}
				}
			}
		}
	}
}

// P6.2: from each reached block the next above, and the one above that, and so on, lead to 0, past all that dominate it and no others; and what is below a block are its kids.
func TestTree(t *testing.T) {
	for _, l := range sample.Many() {
		f := l.Function()
		above, reach := dom.Above(f), l.Reach()
		if len(above) != len(l) {
			t.Fatalf("Above of %v = %v", l, above)
		}
		kids := 0
		for b := range l {
			var line []int
			for up := b; up >= 0 && len(line) <= len(l) && slices.Contains(reach, b); up = above[up] {
				line = append(line, up)
			}
			slices.Sort(line)
			if !slices.Equal(dom.All(f, b), line) || len(line) > 0 && line[0] != 0 {
				t.Fatalf("of %v: %d is dominated by %v; above it are %v", l, b, dom.All(f, b), line)
			}
			kids += len(dom.Kids(f, b))
		}
		if kids != len(reach)-1 {
			t.Fatalf("of %v: %d kids in all", l, kids)
		}
	}
}

package kind_test

import (
	"slices"
	"testing"

	"portolan/api"
	"portolan/bitset"
	"portolan/kind"
	"portolan/sample"
)

// of is a function of these blocks, with the variables of the first one of mixed: 0 and 6 are Int, 1 and 4 Ref, 2 and 3 Ders of 1, 5 one of 4.
func of(blocks ...[]api.Ins) api.Func {
	f := mixed().Funcs[0]
	f.Blocks = nil
	for _, l := range blocks {
		f.Blocks = append(f.Blocks, api.Block{Code: l})
	}
	return f
}

// by is a block: instructions, and the last one.
func by(last api.Ins, l ...api.Ins) []api.Ins {
	return append(l, last)
}

// konst is an instruction that sets an Int.
func konst(d int) api.Ins { return api.Ins{Op: api.OpConst, D: d} }

// null is one that sets a Ref.
func null(d int) api.Ins { return api.Ins{Op: api.OpNull, D: d} }

// derive is one that sets a Der.
func derive(d, a int) api.Ins { return api.Ins{Op: api.OpDerive, D: d, A: a} }

// shift is one that sets a Der, and asks for one.
func shift(d, a int) api.Ins { return api.Ins{Op: api.OpShift, D: d, A: a} }

// load is one that asks for a Der.
func load(a int) api.Ins { return api.Ins{Op: api.OpLoadDer, D: 6, A: a} }

// show is one that asks for an Int.
func show(a int) api.Ins { return api.Ins{Op: api.OpPrint, A: a} }

// jump and branch lead on, and answer does not.
func jump(n int) api.Ins      { return api.Ins{Op: api.OpJump, N: n} }
func branch(n, m int) api.Ins { return api.Ins{Op: api.OpBranch, A: 0, N: n, M: m} }
func answer(a int) api.Ins    { return api.Ins{Op: api.OpReturn, A: a} }

// written is a function, and what is set and fresh at the beginning of each block; none of one that isn't reached.
type written struct {
	f          api.Func
	set, fresh [][]int
}

// straight is functions without ways round.
func straight() []written {
	return []written{
		{of(by(answer(0))), [][]int{{}}, [][]int{{}}},
		{
			of(by(branch(1, 2), konst(0), null(1)), by(jump(3), derive(2, 1), konst(6)), by(jump(3), derive(3, 1), derive(2, 1)), by(answer(0))),
			[][]int{{}, {0, 1}, {0, 1}, {0, 1, 2}}, [][]int{{}, {}, {}, {2}},
		},
		{
			of(by(branch(1, 2), konst(0), null(1), null(4), derive(2, 1), derive(5, 4)), by(jump(3), null(1)), by(jump(3), null(4)), by(answer(0))),
			[][]int{{}, {0, 1, 2, 4, 5}, {0, 1, 2, 4, 5}, {0, 1, 2, 4, 5}}, [][]int{{}, {2, 5}, {2, 5}, {}},
		},
		{
			of(by(branch(1, 2), konst(0), derive(2, 1), null(1)), by(jump(3), derive(2, 1)), by(jump(3), shift(3, 2)), by(answer(0), derive(3, 1))),
			[][]int{{}, {0, 1, 2}, {0, 1, 2}, {0, 1, 2}}, [][]int{{}, {}, {}, {}},
		},
		{
			of(by(jump(1), derive(2, 1), shift(3, 2), shift(2, 2), null(4)), by(jump(2), null(1), shift(3, 2)), by(jump(3), derive(2, 1), shift(3, 2)), by(answer(0))),
			[][]int{{}, {2, 3, 4}, {1, 2, 3, 4}, {1, 2, 3, 4}}, [][]int{{}, {2, 3}, {}, {2, 3}},
		},
		{
			of(by(jump(2), konst(0)), by(branch(2, 3), konst(6), null(1)), by(answer(0), null(4)), by(jump(1))),
			[][]int{{}, nil, {0}, nil}, [][]int{{}, nil, {}, nil},
		},
	}
}

// round is functions with ways round.
func round() []written {
	return []written{
		{
			of(by(jump(1), konst(0), derive(2, 1)), by(branch(1, 2), shift(2, 2), null(4)), by(answer(0))),
			[][]int{{}, {0, 2}, {0, 2, 4}}, [][]int{{}, {2}, {2}},
		},
		{
			of(by(jump(1), konst(0), derive(2, 1), derive(3, 1)), by(branch(2, 3), shift(2, 3)), by(jump(1), null(1), derive(3, 1)), by(answer(0))),
			[][]int{{}, {0, 2, 3}, {0, 2, 3}, {0, 2, 3}}, [][]int{{}, {3}, {2, 3}, {2, 3}},
		},
		{
			of(by(jump(1), konst(0), derive(2, 1), null(1), derive(3, 1)), by(branch(1, 2), shift(3, 2)), by(answer(0))),
			[][]int{{}, {0, 1, 2, 3}, {0, 1, 2, 3}}, [][]int{{}, {}, {}},
		},
		{
			of(by(jump(1), konst(0)), by(branch(1, 2)), by(branch(1, 3), null(1), derive(2, 1)), by(jump(1), null(4))),
			[][]int{{}, {0}, {0}, {0, 1, 2}}, [][]int{{}, {}, {}, {2}},
		},
		{
			of(by(branch(1, 2), konst(0), derive(2, 1)), by(jump(2), derive(3, 1)), by(branch(1, 3), derive(5, 4)), by(jump(2), null(1))),
			[][]int{{}, {0, 2}, {0, 2}, {0, 2, 5}}, [][]int{{}, {}, {}, {5}},
		},
	}
}

// chain is a function of Ders 0 to n-1, of the base n, each of which is shifted of the one ahead of it on a way round, the last one first: 0 is stale as that begins, and makes one more stale each time.
func chain(n int) api.Func {
	f := api.Func{Kinds: append(slices.Repeat([]int{2}, n), 1, 0), Base: append(slices.Repeat([]int{n}, n), -1, -1)}
	first := []api.Ins{null(n), konst(n + 1), derive(0, n), null(n)}
	var body []api.Ins
	for v := n - 1; v > 0; v-- {
		first = append(first, derive(v, n))
		body = append(body, shift(v, v-1))
	}
	last := api.Ins{Op: api.OpBranch, A: n + 1, N: 1, M: 2}
	for _, l := range [][]api.Ins{by(jump(1), first...), by(last, body...), by(answer(n + 1))} {
		f.Blocks = append(f.Blocks, api.Block{Code: l})
	}
	return f
}

// P8.1: of Set and Fresh, functions that are written out.
func TestWrittenOut(t *testing.T) {
	for i, x := range append(straight(), round()...) {
		for b := range x.f.Blocks {
			if set, fresh := bitset.List(kind.Set(x.f, b)), bitset.List(kind.Fresh(x.f, b)); !slices.Equal(set, x.set[b]) || !slices.Equal(fresh, x.fresh[b]) {
				t.Errorf("%d: at %d are set %v, fresh %v", i, b, set, fresh)
			}
		}
	}
	f := chain(30)
	for b := range f.Blocks {
		if set, fresh := kind.Set(f, b), kind.Fresh(f, b); bitset.Count(set) != min(b, 1)*32 || len(fresh) > 0 {
			t.Errorf("of a chain, at %d are set %v, fresh %v", b, bitset.List(set), bitset.List(fresh))
		}
	}
}

// P8.1: of Set, what a function is handed is set.
func TestArguments(t *testing.T) {
	f := api.Func{Kinds: []int{1, 0, 1, 0, 0, 1}, Base: slices.Repeat([]int{-1}, 6), Blocks: []api.Block{{Code: []api.Ins{null(5), jump(1)}}, {Code: []api.Ins{answer(0)}}}}
	for n := range 5 {
		f.Params = n
		want := []int{0, 1, 2, 3}[:n]
		if l := bitset.List(kind.Set(f, 0)); !slices.Equal(l, want) {
			t.Errorf("of %d arguments are set %v", n, l)
		}
		if l := bitset.List(kind.Set(f, 1)); !slices.Equal(l, append(slices.Clone(want), 5)) || len(kind.Fresh(f, 1)) > 0 {
			t.Errorf("of %d arguments are set further on %v", n, l)
		}
	}
}

// P8.1: of Set and Fresh, blocks that aren't there.
func TestNoBlock(t *testing.T) {
	for _, x := range append(straight(), round()...) {
		for _, b := range append(sample.Far(), len(x.f.Blocks), len(x.f.Blocks)+1) {
			if len(kind.Set(x.f, b)) > 0 || len(kind.Fresh(x.f, b)) > 0 {
				t.Errorf("something is set, or fresh, at %d", b)
			}
		}
	}
}

// P8.1: of Step, each operation with each D and A, where this and that is set and fresh.
func TestStep(t *testing.T) {
	f := of(by(answer(0)))
	for op := 1; op <= 23; op++ {
		for d := range f.Kinds {
			for a := range f.Kinds {
				for some := range 8 {
					set, fresh := []int{some, 3, 2}, slices.DeleteFunc([]int{2, 3, 5}, func(v int) bool { return some>>(v/2)&1 == 0 })
					stepped(t, f, api.Ins{Op: op, D: d, A: a, B: 6}, set, fresh)
				}
			}
		}
	}
}

// P8.1: of Step, nothing is set by what sets nothing, or has a D that is no variable.
func TestStepOfNothing(t *testing.T) {
	f := of(by(answer(0)))
	for _, x := range []api.Ins{{Op: api.OpPoll}, {Op: api.OpPrint, D: 4}, {Op: api.OpStoreInt, D: 1}, {}, konst(-1), null(7), null(63), derive(4095, 1)} {
		set, fresh := kind.Step(f, x, bitset.Of(0, 1), bitset.Of(2, 5))
		if !slices.Equal(set, bitset.Of(0, 1)) || !slices.Equal(fresh, bitset.Of(2, 5)) {
			t.Errorf("behind %v are set %v, fresh %v", x, bitset.List(set), bitset.List(fresh))
		}
	}
}

// stepped asks for what is set and fresh behind an instruction.
func stepped(t *testing.T, f api.Func, x api.Ins, set, fresh []int) {
	t.Helper()
	gotSet, gotFresh := kind.Step(f, x, bitset.Of(set...), bitset.Of(fresh...))
	for v := range 50 {
		isSet, isFresh := slices.Contains(set, v), slices.Contains(fresh, v)
		switch {
		case sets(x, v):
			isSet, isFresh = true, letter(f, v) == 'd' && (x.Op != 16 || slices.Contains(fresh, x.A))
		case v < len(f.Base) && sets(x, f.Base[v]):
			isFresh = false
		}
		if bitset.Has(gotSet, v) != isSet || bitset.Has(gotFresh, v) != isFresh {
			t.Errorf("behind %v, of %v and %v, are set %v, fresh %v", x, set, fresh, bitset.List(gotSet), bitset.List(gotFresh))
		}
	}
}

// many is programs of all answers of Check.
func many() []api.Prog {
	all := sample.Programs()
	for i, p := range all[:800] {
		all = append(all, changed(p, i))
	}
	return all
}

// changed is a program with a number of an instruction changed: its kinds may not fit any more, and it may not be at all.
func changed(p api.Prog, i int) api.Prog {
	p = sample.RoomyProgram(p)
	f := p.Funcs[i%len(p.Funcs)]
	l := f.Blocks[i/3%len(f.Blocks)].Code
	x := &l[i/7%len(l)]
	for _, field := range [][]*int{{&x.D}, {&x.A}, {&x.B}, {&x.D, &x.A}, {&x.Op}}[i%5] {
		*field = (*field + 1 + i%3) % len(f.Kinds)
	}
	return p
}

// P8.1: of Set, Fresh and Check, many programs, by a model apart from the package.
func TestModel(t *testing.T) {
	count := map[api.Errno]int{}
	for _, p := range many() {
		e := kind.Check(p)
		if want := check(p); e != want {
			t.Fatalf("Check = %d; want %d: %s", e, want, shown(p))
		}
		count[e]++
		if e == api.ErrForm {
			continue
		}
		for _, f := range p.Funcs {
			modelled(t, f)
		}
	}
	for _, e := range []api.Errno{api.OK, api.ErrForm, api.ErrKind, api.ErrUnset, api.ErrStale} {
		if count[e] < 100 {
			t.Errorf("%d programs answer %d", count[e], e)
		}
	}
}

// P8.1: of Set and Fresh, a function as great as one may be.
func TestGreatest(t *testing.T) {
	modelled(t, greatest())
}

// modelled asks for what is set and fresh at each block of a function, and, of a small one, by steps at each place.
func modelled(t *testing.T, f api.Func) {
	t.Helper()
	m := modelOf(f)
	for b, x := range f.Blocks {
		set, fresh := kind.Set(f, b), kind.Fresh(f, b)
		if !slices.Contains(m.reach, b) {
			if len(set) > 0 || len(fresh) > 0 {
				t.Fatalf("%d isn't reached: %s", b, shown(f))
			}
			continue
		}
		for i := range x.Code {
			at := api.Place{Block: b, At: i}
			if l, want := bitset.List(set), m.of(at, m.isSet); !slices.Equal(l, want) {
				t.Fatalf("at %v are set %v; want %v: %s", at, l, want, shown(f))
			}
			if l, want := bitset.List(fresh), m.of(at, m.isFresh); !slices.Equal(l, want) {
				t.Fatalf("at %v are fresh %v; want %v: %s", at, l, want, shown(f))
			}
			if len(f.Kinds) > 8 {
				break
			}
			set, fresh = kind.Step(f, x.Code[i], set, fresh)
		}
	}
}

// walked is the instructions of a way.
type walked []api.Ins

// set tells whether a variable is, at the way's end.
func (w walked) set(f api.Func, v int) bool {
	return v < f.Params || slices.ContainsFunc(w, func(x api.Ins) bool { return sets(x, v) })
}

// fresh tells whether a Der is, at the way's end.
func (w walked) fresh(f api.Func, v int) bool {
	if letter(f, v) != 'd' {
		return false
	}
	for i, x := range slices.Backward(w) {
		switch {
		case sets(x, v):
			return x.Op != 16 || w[:i].fresh(f, x.A)
		case sets(x, f.Base[v]):
			return false
		}
	}
	return false
}

// P8.2: along ways, what is told to be set is, and what is told to be fresh is.
func TestOnAllWays(t *testing.T) {
	turn := 0
	for _, p := range many() {
		if check(p) == api.ErrForm {
			continue
		}
		for _, f := range p.Funcs {
			for range 3 {
				turn = along(t, f, turn)
			}
		}
	}
}

// along goes a way through a function, and tells how many turns were taken in all.
func along(t *testing.T, f api.Func, turn int) int {
	t.Helper()
	m := modelOf(f)
	var w walked
	for b := 0; len(w) < 100; turn++ {
		for _, v := range bitset.List(kind.Set(f, b)) {
			if !w.set(f, v) {
				t.Fatalf("%d isn't set at %d along %v: %s", v, b, w, shown(f))
			}
		}
		for _, v := range bitset.List(kind.Fresh(f, b)) {
			if !w.fresh(f, v) {
				t.Fatalf("%d isn't fresh at %d along %v: %s", v, b, w, shown(f))
			}
		}
		w = append(w, f.Blocks[b].Code...)
		next := m.next(b)
		if len(next) == 0 {
			break
		}
		b = next[turn/3%len(next)]
	}
	return turn + 1
}

// next is the blocks that a reached block leads to.
func (m model) next(b int) []int {
	var l []int
	for n, from := range m.prev {
		if slices.Contains(from, b) {
			l = append(l, n)
		}
	}
	return l
}

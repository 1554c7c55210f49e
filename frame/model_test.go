package frame_test

import (
	"fmt"
	"slices"
	"testing"

	"portolan/api"
	"portolan/bitset"
	"portolan/frame"
	"portolan/keep"
	"portolan/par"
	"portolan/sample"
	"portolan/scan"
	"portolan/shape"
	"portolan/span"
)

// many is functions of programs that may be run, as layer 14 lays them.
func many() []api.Func {
	var all []api.Func
	for _, p := range sample.Laid() {
		all = append(all, p.Funcs...)
	}
	return all
}

// numbers is how many registers are asked for.
func numbers() []int {
	return []int{2, 3, 4, 6, 9, 17, 32}
}

// known is a function, and what is known of it by asking layers 12 and 15: its spans, what is kept ahead of its first instruction, and what is kept together at places of its reached blocks (or set, and kept behind the instruction that does).
type known struct {
	f        api.Func
	spans    []api.Span
	first    []int
	together [][]int
}

// sets is what is known of a function.
func sets(f api.Func) known {
	k := known{f: f, spans: span.Spans(f), first: bitset.List(keep.Ahead(f, 0, 0))}
	for _, p := range span.Line(f) {
		behind := keep.Behind(f, p.Block, p.At)
		if d, ok := shape.Sets(f.Blocks[p.Block].Code[p.At]); ok {
			behind = bitset.With(behind, d)
		}
		k.together = append(k.together, bitset.List(keep.Ahead(f, p.Block, p.At)), bitset.List(behind))
	}
	return k
}

// framed is the frame, by looking up each variable.
func framed(k known, regs int) api.Frame {
	locs, _ := scan.Scan(k.spans, regs)
	var x api.Frame
	for v := range k.f.Kinds {
		var home api.Loc
		if i := slices.IndexFunc(k.spans, func(s api.Span) bool { return s.Var == v }); i >= 0 {
			home = locs[i]
		}
		x.Homes = append(x.Homes, home)
	}
	for x.Slots < k.f.Params || slices.ContainsFunc(x.Homes, func(l api.Loc) bool { return l.Kind == api.LocSlot && l.N >= x.Slots }) {
		x.Slots++
	}
	var l []api.Move
	for v := range k.f.Params {
		if slices.Contains(k.first, v) {
			l = append(l, move(x.Homes[v], slot(v)))
		}
	}
	x.Entry, _ = par.Order(l, slot(x.Slots))
	x.Slots++
	return x
}

// modelled asks for a function's frame; it answers it.
func modelled(t *testing.T, k known, regs int) api.Frame {
	t.Helper()
	want := framed(k, regs)
	got, e := frame.Lay(k.f, regs)
	if e != api.OK || !same(got, want) {
		t.Fatalf("of %d registers: %v, %v; want %v: %s", regs, got, e, want, shown(k.f))
	}
	if !frame.Right(got) {
		t.Fatalf("of %d registers it isn't right: %v: %s", regs, got, shown(k.f))
	}
	return got
}

// promised asks of a frame what P18.2 and P18.3 say; it tells how many arguments come home, and how many pairs are kept together.
func promised(t *testing.T, k known, x api.Frame) (home, pairs int) {
	t.Helper()
	has := map[api.Loc]int{}
	for v := range k.f.Params {
		has[slot(v)] = 100 + v
	}
	for _, m := range x.Entry {
		has[m.To] = has[m.From]
	}
	for _, v := range k.first {
		if v >= k.f.Params || has[x.Homes[v]] != 100+v {
			t.Fatalf("%d isn't at home behind %v: %s", v, x, shown(k.f))
		}
	}
	for _, l := range k.together {
		for i, v := range l {
			if x.Homes[v].Kind == api.LocNone {
				t.Fatalf("%d has no home: %v: %s", v, x, shown(k.f))
			}
			for _, w := range l[:i] {
				pairs++
				if x.Homes[v] == x.Homes[w] {
					t.Fatalf("%d and %d have one home: %v: %s", w, v, x, shown(k.f))
				}
			}
		}
	}
	return len(k.first), pairs
}

// tally is how much there was of what is asked for.
type tally struct {
	home, pairs, moved, saved, stay, idle, args, nowhere int
}

// count asks of a frame what is promised, and counts what it has.
func (c *tally) count(t *testing.T, k known, x api.Frame) {
	t.Helper()
	home, pairs := promised(t, k, x)
	c.home, c.pairs, c.moved = c.home+home, c.pairs+pairs, c.moved+len(x.Entry)
	for _, m := range x.Entry {
		if m.To == frame.Spare(x) {
			c.saved++
		}
	}
	for v := range k.f.Params {
		if !slices.Contains(k.first, v) {
			c.idle++
		} else if x.Homes[v] == slot(v) {
			c.stay++
		}
	}
	if x.Slots == k.f.Params+1 {
		c.args++
	}
	for _, l := range x.Homes {
		if l.Kind == api.LocNone {
			c.nowhere++
		}
	}
}

// P18.1, P18.2 and P18.3: of Lay, many functions, by a model apart from the package.
func TestModel(t *testing.T) {
	var c tally
	for _, f := range many() {
		k := sets(f)
		for _, regs := range numbers() {
			c.count(t, k, modelled(t, k, regs))
		}
	}
	if c.home < 4000 || c.pairs < 8000000 || c.moved < 2000 || c.saved < 10 || c.stay < 300 || c.idle < 5000 || c.args < 5000 || c.nowhere < 500 {
		t.Errorf("there is too little: %+v", c)
	}
}

// over goes to all lists of n items.
func over[T any](items []T, n int, visit func(l []T)) {
	l := make([]T, n)
	var put func(i int)
	put = func(i int) {
		if i == n {
			visit(l)
			return
		}
		for _, x := range items {
			l[i] = x
			put(i + 1)
		}
	}
	put(0)
}

// P18.1, P18.2 and P18.3: of Lay, all functions of one block, of four arguments, and of up to six of these: each argument is asked for, or is set; something is called; others need two registers for a while.
func TestArguments(t *testing.T) {
	items := [][]api.Ins{{ask(0)}, {ask(1)}, {ask(2)}, {ask(3)}, {set(1)}, {call(4)}, {set(5), set(6), add(5, 5, 6)}}
	var c tally
	lengths := map[int]int{} // of moves, where some go round
	for n := range 7 {
		over(items, n, func(l [][]api.Ins) {
			code := slices.Concat(slices.Concat(l...), []api.Ins{set(7), answer(7)})
			k := sets(ints(4, 8, code))
			for _, regs := range []int{2, 3} {
				if n == 6 && regs == 3 {
					continue
				}
				x, saved := modelled(t, k, regs), c.saved
				c.count(t, k, x)
				if c.saved > saved {
					lengths[len(x.Entry)]++
				}
			}
		})
	}
	if c.home < 300000 || c.pairs < 2000000 || c.moved < 200000 || c.saved < 3000 || c.stay < 50000 || c.idle < 200000 || len(lengths) < 4 {
		t.Errorf("there is too little: %+v, %v", c, lengths)
	}
}

// right tells whether a frame is right, by looking for each location among all that may stand there.
func right(x api.Frame) bool {
	if x.Slots < 1 || x.Slots > 160 {
		return false
	}
	var locs []api.Loc
	for n := range 32 {
		locs = append(locs, reg(n))
	}
	for n := range x.Slots - 1 {
		locs = append(locs, slot(n))
	}
	for _, l := range x.Homes {
		if l != (api.Loc{}) && !slices.Contains(locs, l) {
			return false
		}
	}
	locs = append(locs, slot(x.Slots-1))
	for _, m := range x.Entry {
		if !slices.Contains(locs, m.To) || !slices.Contains(locs, m.From) {
			return false
		}
	}
	return true
}

// shown is the beginning of what is told of a fault.
func shown(x any) string {
	s := fmt.Sprint(x)
	return s[:min(len(s), 1500)]
}

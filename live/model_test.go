package live_test

import (
	"fmt"
	"slices"
	"testing"

	"portolan/api"
	"portolan/bitset"
	"portolan/flow"
	"portolan/live"
	"portolan/point"
	"portolan/sample"
	"portolan/shape"
)

// lives is all variables that are live at a place, by a model apart from the package.
func lives(f api.Func, p api.Place) []uint64 {
	return bitset.Of(sample.Lives(f, p)...)
}

// modelled asks for what is live at a function's places: of a small one at each, of others at the ends of each block, and at each place of one of them.
func modelled(t *testing.T, f api.Func) {
	t.Helper()
	one := flow.Size(f) % len(f.Blocks)
	for b, x := range f.Blocks {
		in, out := lives(f, api.Place{Block: b}), lives(f, api.Place{Block: b, At: len(x.Code)})
		if got := live.In(f, b); !slices.Equal(got, in) {
			t.Fatalf("at the beginning of %d are live %v; want %v: %s", b, bitset.List(got), bitset.List(in), shown(f))
		}
		if got := live.Out(f, b); !slices.Equal(got, out) {
			t.Fatalf("at the end of %d are live %v; want %v: %s", b, bitset.List(got), bitset.List(out), shown(f))
		}
		if len(f.Blocks) > 2 && b != one {
			continue
		}
		for i := range x.Code {
			place(t, f, b, i)
		}
	}
}

// place asks for what is live at a place.
func place(t *testing.T, f api.Func, b, i int) {
	t.Helper()
	ahead, behind := lives(f, api.Place{Block: b, At: i}), lives(f, api.Place{Block: b, At: i + 1})
	if got := live.Ahead(f, b, i); !slices.Equal(got, ahead) {
		t.Fatalf("ahead of %d of %d are live %v; want %v: %s", i, b, bitset.List(got), bitset.List(ahead), shown(f))
	}
	if got := live.Behind(f, b, i); !slices.Equal(got, behind) {
		t.Fatalf("behind %d of %d are live %v; want %v: %s", i, b, bitset.List(got), bitset.List(behind), shown(f))
	}
	if v := (b + i) % len(f.Kinds); live.Is(f, b, i, v) != bitset.Has(ahead, v) {
		t.Fatalf("Is of %d, ahead of %d of %d, isn't as %v: %s", v, i, b, bitset.List(ahead), shown(f))
	}
}

// many is functions of programs that may be, of which some have polls, and some are as layer 14 lays them.
func many() []api.Func {
	var all []api.Func
	for n, p := range append(sample.Programs(), sample.Runs()[:100]...) {
		laid, e := point.Whole(p)
		switch {
		case n%3 == 0:
			p.Funcs[0] = sample.Polled(p.Funcs[0])
		case n%3 == 1 && e == api.OK:
			p = laid
		}
		all = append(all, p.Funcs...)
	}
	return all
}

// P11.1: of all calls, many functions, by a model apart from the package.
func TestModel(t *testing.T) {
	for _, f := range many() {
		modelled(t, f)
	}
	modelled(t, greatest())
	for n, l := range sample.Great() {
		if n%4 == 0 {
			modelled(t, l.Function())
		}
	}
}

// P11.1: all functions of up to three blocks, each of which does this or that with one variable; branches and answers ask for another one.
func TestSmall(t *testing.T) {
	codes := [][]api.Ins{nil, {ask(0)}, {set(0)}, {ask(0), set(0)}, {set(0), ask(0)}}
	for n := 1; n <= 3; n++ {
		for _, l := range sample.Every(n) {
			for which := range []int{1, 5, 25, 125}[n] {
				f := api.Func{Kinds: []int{0, 0}, Base: []int{-1, -1}}
				for _, x := range l.Function().Blocks {
					end := x.Code[len(x.Code)-1]
					end.A = 1
					f.Blocks = append(f.Blocks, api.Block{Code: append(slices.Clone(codes[which%5]), end)})
					which /= 5
				}
				modelled(t, f)
			}
		}
	}
}

// P11.2: along ways, what is asked for is live at each place back to where it is set, or to where the way begins.
func TestBackToWhereItIsSet(t *testing.T) {
	turn := 0
	for _, f := range many() {
		turn++
		backwards(t, f, way(f, turn%len(f.Blocks), &turn))
	}
}

// way is the places of a way from a block on, which ends or is long.
func way(f api.Func, b int, turn *int) []api.Place {
	var w []api.Place
	for len(w) < 80 {
		for i := range f.Blocks[b].Code {
			w = append(w, api.Place{Block: b, At: i})
		}
		next := flow.Next(f, b)
		if len(next) == 0 {
			break
		}
		*turn++
		b = next[*turn/3%len(next)]
	}
	return w
}

// backwards goes a way back from its end, with what was asked for and not set yet.
func backwards(t *testing.T, f api.Func, w []api.Place) {
	t.Helper()
	var due []uint64
	for _, p := range slices.Backward(w) {
		if got := live.Behind(f, p.Block, p.At); !bitset.Holds(got, due) {
			t.Fatalf("behind %v are live %v, not all of %v: %s", p, bitset.List(got), bitset.List(due), shown(f))
		}
		x := f.Blocks[p.Block].Code[p.At]
		if d, ok := shape.Sets(x); ok {
			due = bitset.Without(due, d)
		}
		due = bitset.With(due, shape.Uses(x)...)
		if got := live.Ahead(f, p.Block, p.At); !bitset.Holds(got, due) {
			t.Fatalf("ahead of %v are live %v, not all of %v: %s", p, bitset.List(got), bitset.List(due), shown(f))
		}
	}
}

// shown is the beginning of what is told of a fault.
func shown(x any) string {
	s := fmt.Sprint(x)
	return s[:min(len(s), 1500)]
}

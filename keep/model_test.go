package keep_test

import (
	"fmt"
	"slices"
	"testing"

	"portolan/api"
	"portolan/bitset"
	"portolan/flow"
	"portolan/keep"
	"portolan/kind"
	"portolan/point"
	"portolan/sample"
	"portolan/shape"
)

// many is functions of programs that may be, of which some have polls, and some are as layer 14 lays them.
func many() []api.Func {
	all := []api.Func{greatest()}
	for n, p := range slices.Concat(sample.Programs(), sample.Runs()[:60]) {
		laid, e := point.Whole(p)
		switch {
		case n%3 == 0:
			p.Funcs[0] = sample.Polled(p.Funcs[0])
		case n%3 == 1 && e == api.OK:
			p = laid
		}
		all = append(all, p.Funcs...)
	}
	return all
}

// places is a function's places: of a small one all, of others those of a few of its blocks.
func places(f api.Func) []api.Place {
	var l []api.Place
	n := len(f.Blocks)
	few := []int{0, flow.Size(f) % n, n - 1}
	for b, x := range f.Blocks {
		for i := range x.Code {
			if n < 4 || slices.Contains(few, b) {
				l = append(l, api.Place{Block: b, At: i})
			}
		}
	}
	return l
}

// kept is what the words say of a place, apart from the package: what is live, and what is the base of a Der that is.
func kept(f api.Func, p api.Place) []uint64 {
	return bitset.Of(based(f, sample.Lives(f, p))...)
}

// P12.1: of Ahead, Behind and Across, many functions, by a model apart from the package.
func TestModel(t *testing.T) {
	bases := 0
	for _, f := range many() {
		for _, p := range places(f) {
			ahead, behind := kept(f, p), kept(f, api.Place{Block: p.Block, At: p.At + 1})
			across := behind
			if d, ok := shape.Sets(f.Blocks[p.Block].Code[p.At]); ok {
				across = bitset.Without(behind, d)
			}
			alike(t, f, p, "Ahead", keep.Ahead(f, p.Block, p.At), ahead)
			alike(t, f, p, "Behind", keep.Behind(f, p.Block, p.At), behind)
			alike(t, f, p, "Across", keep.Across(f, p.Block, p.At), across)
			if bitset.Count(ahead) > len(sample.Lives(f, p)) {
				bases++
			}
		}
	}
	if bases < 1000 {
		t.Errorf("at %d places alone bases are kept that aren't live", bases)
	}
}

// alike asks whether a call's answer of a place is the one that it should be.
func alike(t *testing.T, f api.Func, p api.Place, call string, got, want []uint64) {
	t.Helper()
	if !slices.Equal(got, want) {
		t.Fatalf("%s of %v is %v; want %v: %s", call, p, bitset.List(got), bitset.List(want), shown(f))
	}
}

// runnable is the functions of programs that may be run.
func runnable() []api.Func {
	var all []api.Func
	for _, p := range slices.Concat(sample.Programs(), sample.Runs()[:60]) {
		if kind.Check(p) == api.OK {
			all = append(all, p.Funcs...)
		}
	}
	return all
}

// P12.2: in programs that may be run, at each place of a reached block, what is kept is set, and Ders that are kept are fresh, too. Polls, and edges that are split, change nothing of that.
func TestBaseStays(t *testing.T) {
	ders := 0
	for n, f := range runnable() {
		laid, e := point.Lay(f)
		switch {
		case n%3 == 0:
			f = sample.Polled(f)
		case n%3 == 1 && e == api.OK:
			f = laid
		}
		for _, b := range flow.Reach(f) {
			set, fresh := kind.Set(f, b), kind.Fresh(f, b)
			for i, x := range f.Blocks[b].Code {
				ders += stays(t, f, api.Place{Block: b, At: i}, keep.Ahead(f, b, i), set, fresh)
				set, fresh = kind.Step(f, x, set, fresh)
				stays(t, f, api.Place{Block: b, At: i + 1}, keep.Behind(f, b, i), set, fresh)
			}
		}
	}
	if ders < 1000 {
		t.Errorf("%d Ders alone are kept somewhere", ders)
	}
}

// stays asks whether what is kept at a place is set, and whether Ders are fresh there; it tells how many of these there are.
func stays(t *testing.T, f api.Func, p api.Place, kept, set, fresh []uint64) int {
	t.Helper()
	if !bitset.Holds(set, kept) {
		t.Fatalf("at %v are kept %v, and set %v: %s", p, bitset.List(kept), bitset.List(set), shown(f))
	}
	ders := keep.Ders(f, kept)
	for _, v := range ders {
		if !bitset.Has(fresh, v) || !bitset.Has(kept, f.Base[v]) {
			t.Fatalf("at %v are kept %v, and fresh %v: %s", p, bitset.List(kept), bitset.List(fresh), shown(f))
		}
	}
	return len(ders)
}

// shown is the beginning of what is told of a fault.
func shown(x any) string {
	s := fmt.Sprint(x)
	return s[:min(len(s), 1500)]
}

package span_test

import (
	"fmt"
	"slices"
	"testing"

	"portolan/api"
	"portolan/bitset"
	"portolan/keep"
	"portolan/kind"
	"portolan/point"
	"portolan/sample"
	"portolan/shape"
	"portolan/span"
)

// many is functions of programs that may be run, as layer 14 lays them.
func many() []api.Func {
	all := []api.Func{greatest()}
	for _, p := range sample.Laid() {
		all = append(all, p.Funcs...)
	}
	return all
}

// lined is the line, by a walk apart from the package.
func lined(f api.Func) []api.Place {
	var l []api.Place
	for _, b := range sample.EndsOf(f).Order() {
		for i := range f.Blocks[b].Code {
			l = append(l, api.Place{Block: b, At: i})
		}
	}
	return l
}

// points is what is there at each point of the line, and what is kept across calls, by asking layer 12 at each place.
func points(f api.Func) (there [][]uint64, calls []uint64) {
	for _, p := range lined(f) {
		ahead, behind := keep.Ahead(f, p.Block, p.At), keep.Behind(f, p.Block, p.At)
		x := f.Blocks[p.Block].Code[p.At]
		if d, ok := shape.Sets(x); ok {
			behind = bitset.With(behind, d)
		}
		there = append(there, ahead, behind)
		if x.Op == api.OpCall {
			calls = bitset.Join(calls, keep.Across(f, p.Block, p.At))
		}
	}
	return there, calls
}

// spanned is the spans, by going along the points: they come by where they begin.
func spanned(there [][]uint64, calls []uint64) []api.Span {
	var l []api.Span
	for p, vars := range there {
		for _, v := range bitset.List(vars) {
			is := func(s api.Span) bool { return s.Var == v }
			at := slices.IndexFunc(l, is)
			if at < 0 {
				at = len(l)
				l = append(l, api.Span{Var: v, From: p, Call: bitset.Has(calls, v)})
			}
			l[at].To = p
		}
	}
	return l
}

// modelled makes each call of a function; it answers its spans.
func modelled(t *testing.T, f api.Func) []api.Span {
	t.Helper()
	if got, want := span.Line(f), lined(f); !slices.Equal(got, want) {
		t.Fatalf("the line is %v; want %v: %s", got, want, shown(f))
	}
	there, calls := points(f)
	got, want := span.Spans(f), spanned(there, calls)
	if !slices.Equal(got, want) {
		t.Fatalf("the spans are %v; want %v: %s", got, want, shown(f))
	}
	if s := span.Calls(f); !slices.Equal(s, calls) {
		t.Fatalf("kept across calls are %v; want %v: %s", bitset.List(s), bitset.List(calls), shown(f))
	}
	return got
}

// P15.1: of Line, Spans and Calls, many functions, by a model apart from the package.
func TestModel(t *testing.T) {
	spans, calls, alone, first := 0, 0, 0, 0
	for _, f := range many() {
		for _, s := range modelled(t, f) {
			spans++
			if s.Call {
				calls++
			}
			if s.From == s.To {
				alone++
			}
			if s.From == 0 {
				first++
			}
		}
	}
	if spans < 10000 || calls < 2000 || alone < 500 || first < 500 {
		t.Errorf("there are %d spans alone, %d across calls, %d of one point, %d from the first one on", spans, calls, alone, first)
	}
}

// P15.1: all functions of up to three blocks, each of which does this or that with one variable, or calls; branches and answers ask for another one.
func TestSmall(t *testing.T) {
	codes := [][]api.Ins{nil, {ask(0)}, {set(0)}, {{Op: api.OpCall, D: 2}}}
	for n := 1; n <= 3; n++ {
		for _, l := range sample.Every(n) {
			for which := range []int{1, 4, 16, 64}[n] {
				f := ints()
				for _, x := range l.Function().Blocks {
					end := x.Code[len(x.Code)-1]
					if end.Op != api.OpJump {
						end.A = 1
					}
					f.Blocks = append(f.Blocks, api.Block{Code: append(slices.Clone(codes[which%4]), end)})
					which /= 4
				}
				f.Blocks[0].Code = append([]api.Ins{set(1), set(0)}, f.Blocks[0].Code...)
				if kind.Check(api.Prog{Funcs: []api.Func{f}}) != api.OK {
					t.Fatalf("it may not be run: %s", shown(f))
				}
				f, _ = point.Lay(f)
				modelled(t, f)
			}
		}
	}
}

// P15.2: at each place of a reached block, what is kept there has spans that meet; so has what an instruction sets, and what is kept behind it.
func TestBesideOneAnother(t *testing.T) {
	pairs, sets := 0, 0
	for _, f := range many() {
		spans := map[int]api.Span{}
		for _, s := range span.Spans(f) {
			spans[s.Var] = s
		}
		for _, p := range span.Line(f) {
			behind := keep.Behind(f, p.Block, p.At)
			pairs += meet(t, f, spans, keep.Ahead(f, p.Block, p.At)) + meet(t, f, spans, behind)
			if d, ok := shape.Sets(f.Blocks[p.Block].Code[p.At]); ok {
				sets += meet(t, f, spans, bitset.With(behind, d))
			}
		}
	}
	if pairs < 1000000 || sets < 500000 {
		t.Errorf("there are %d pairs alone, and %d with what is set", pairs, sets)
	}
}

// meet asks whether all spans of a set's variables meet, in pairs; it tells how many pairs there are.
func meet(t *testing.T, f api.Func, spans map[int]api.Span, vars []uint64) int {
	t.Helper()
	l := bitset.List(vars)
	for i, v := range l {
		a, ok := spans[v]
		if !ok {
			t.Fatalf("%d has no span: %s", v, shown(f))
		}
		for _, w := range l[:i] {
			if !span.Meet(a, spans[w]) || !span.Meet(spans[w], a) {
				t.Fatalf("%v and %v don't meet: %s", a, spans[w], shown(f))
			}
		}
	}
	return len(l) * (len(l) - 1) / 2
}

// shown is the beginning of what is told of a fault.
func shown(x any) string {
	s := fmt.Sprint(x)
	return s[:min(len(s), 1500)]
}

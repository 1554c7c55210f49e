package span_test

import (
	"math"
	"slices"
	"testing"

	"portolan/api"
	"portolan/bitset"
	"portolan/kind"
	"portolan/sample"
	"portolan/shape"
	"portolan/span"
)

// written is a function, the blocks of its line, and its spans.
type written struct {
	f     api.Func
	order []int
	spans []api.Span
}

// vars is a function without blocks: 0 and 6 are Int, 1 and 4 Ref, 2 and 3 Ders of 1, 5 is one of 4.
func vars() api.Func {
	return api.Func{Kinds: []int{0, 1, 2, 2, 1, 2, 0}, Base: []int{-1, -1, 1, 1, -1, 4, -1}}
}

// ints is a function without blocks, of four Ints.
func ints() api.Func {
	return api.Func{Kinds: make([]int, 4), Base: slices.Repeat([]int{-1}, 4)}
}

// with is a function with these blocks.
func with(f api.Func, blocks ...[]api.Ins) api.Func {
	for _, l := range blocks {
		f.Blocks = append(f.Blocks, api.Block{Code: l})
	}
	return f
}

// set, ask, jump, branch and answer are instructions of one variable at most.
func set(d int) api.Ins          { return api.Ins{Op: api.OpConst, D: d} }
func ask(a int) api.Ins          { return api.Ins{Op: api.OpPrint, A: a} }
func jump(n int) api.Ins         { return api.Ins{Op: api.OpJump, N: n} }
func branch(a, n, m int) api.Ins { return api.Ins{Op: api.OpBranch, A: a, N: n, M: m} }
func answer(a int) api.Ins       { return api.Ins{Op: api.OpReturn, A: a} }

// straight is functions of one block.
func straight() []written {
	arguments := with(ints(), []api.Ins{ask(1), set(0), set(3), ask(0), {Op: api.OpAdd, D: 1, A: 0, B: 0}, answer(1)})
	arguments.Params = 3
	four := with(ints(), []api.Ins{ask(3), ask(1), ask(2), answer(0)})
	four.Params = 4
	return []written{
		{ // as the chapter has it
			with(ints(), []api.Ins{set(0), answer(0)}), []int{0},
			[]api.Span{{Var: 0, From: 1, To: 2}},
		},
		{ // an argument that is asked for later on, one that is set first, one that isn't asked for; what is set alone
			arguments, []int{0},
			[]api.Span{{Var: 1, From: 0, To: 10}, {Var: 0, From: 3, To: 8}, {Var: 3, From: 5, To: 5}},
		},
		{ // what begins at one point
			four, []int{0},
			[]api.Span{{Var: 0, From: 0, To: 6}, {Var: 1, From: 0, To: 2}, {Var: 2, From: 0, To: 4}, {Var: 3, From: 0, To: 0}},
		},
		{ // a base is there as long as its Ders are; what a call sets isn't kept across it
			with(vars(), []api.Ins{{Op: api.OpAlloc, D: 1, M: 2}, {Op: api.OpDerive, D: 2, A: 1}, {Op: api.OpCall, D: 0}, {Op: api.OpShift, D: 3, A: 2, N: 1}, {Op: api.OpStoreDer, A: 3, B: 0}, answer(0)}), []int{0},
			[]api.Span{{Var: 1, From: 1, To: 8, Call: true}, {Var: 2, From: 3, To: 6, Call: true}, {Var: 0, From: 5, To: 10}, {Var: 3, From: 7, To: 8}},
		},
		{ // what is handed to a call alone isn't kept across it; what it sets and hands over neither
			with(ints(), []api.Ins{set(0), set(1), set(2), {Op: api.OpCall, D: 0, Args: []int{0, 1}}, {Op: api.OpAdd, D: 2, A: 0, B: 2}, {Op: api.OpCall, D: 3, Args: []int{2, 2}}, answer(0)}), []int{0},
			[]api.Span{{Var: 0, From: 1, To: 12, Call: true}, {Var: 1, From: 3, To: 6}, {Var: 2, From: 5, To: 10, Call: true}, {Var: 3, From: 11, To: 11}},
		},
		{ // other points than calls don't count
			with(vars(), []api.Ins{set(0), {Op: api.OpAlloc, D: 4, M: 1}, {Op: api.OpDerive, D: 5, A: 4}, {Op: api.OpAlloc, D: 1}, {Op: api.OpPoll}, {Op: api.OpStoreDer, A: 5, B: 0}, answer(0)}), []int{0},
			[]api.Span{{Var: 0, From: 1, To: 12}, {Var: 4, From: 3, To: 10}, {Var: 5, From: 5, To: 10}, {Var: 1, From: 7, To: 7}},
		},
		{ // a variable that is set thrice has one span, and is kept across a call within it or not
			with(ints(), []api.Ins{set(0), ask(0), set(1), {Op: api.OpCall, D: 2}, set(0), ask(1), set(0), answer(0)}), []int{0},
			[]api.Span{{Var: 0, From: 1, To: 14}, {Var: 1, From: 5, To: 10, Call: true}, {Var: 2, From: 7, To: 7}},
		},
	}
}

// apart is functions of several blocks.
func apart() []written {
	return []written{
		{ // 2 stands ahead of 1
			with(ints(), []api.Ins{set(0), set(1), branch(0, 1, 2)}, []api.Ins{ask(0), set(2), jump(3)}, []api.Ins{ask(1), set(2), jump(3)}, []api.Ins{answer(2)}), []int{0, 2, 1, 3},
			[]api.Span{{Var: 0, From: 1, To: 12}, {Var: 1, From: 3, To: 6}, {Var: 2, From: 9, To: 18}},
		},
		{ // a way round, whose end is the line's
			with(ints(), []api.Ins{set(0), set(1), jump(1)}, []api.Ins{{Op: api.OpLess, D: 2, A: 0, B: 1}, branch(2, 2, 3)}, []api.Ins{{Op: api.OpAdd, D: 0, A: 0, B: 1}, {Op: api.OpPoll}, jump(1)}, []api.Ins{answer(1)}), []int{0, 1, 3, 2},
			[]api.Span{{Var: 0, From: 1, To: 17}, {Var: 1, From: 3, To: 17}, {Var: 2, From: 7, To: 8}},
		},
		{ // a call on a way round, and what is asked for there alone
			with(ints(), []api.Ins{set(0), set(1), jump(1)}, []api.Ins{ask(0), {Op: api.OpCall, D: 2}, branch(2, 2, 3)}, []api.Ins{{Op: api.OpPoll}, jump(1)}, []api.Ins{answer(1)}), []int{0, 1, 3, 2},
			[]api.Span{{Var: 0, From: 1, To: 17, Call: true}, {Var: 1, From: 3, To: 17, Call: true}, {Var: 2, From: 9, To: 10}},
		},
		{ // blocks that aren't reached, one of them with a call
			with(ints(), []api.Ins{set(0), jump(2)}, []api.Ins{{Op: api.OpCall, D: 1}, ask(1), jump(2)}, []api.Ins{answer(0)}, []api.Ins{ask(2), answer(0)}), []int{0, 2},
			[]api.Span{{Var: 0, From: 1, To: 4}},
		},
		{ // a Der that is asked for on one of two ways
			with(vars(), []api.Ins{set(0), {Op: api.OpAlloc, D: 1, M: 1}, {Op: api.OpDerive, D: 2, A: 1}, branch(0, 2, 1)}, []api.Ins{{Op: api.OpCall, D: 6}, jump(3)}, []api.Ins{{Op: api.OpLoadDer, D: 6, A: 2}, jump(3)}, []api.Ins{answer(6)}), []int{0, 2, 1, 3},
			[]api.Span{{Var: 0, From: 1, To: 6}, {Var: 1, From: 3, To: 8}, {Var: 2, From: 5, To: 8}, {Var: 6, From: 9, To: 16}},
		},
		{ // nothing is there
			with(ints(), []api.Ins{jump(1)}, []api.Ins{{Op: api.OpPoll}, jump(1)}), []int{0, 1}, nil,
		},
	}
}

// P15.1: of Line, Spans and Calls, functions that are written out.
func TestWrittenOut(t *testing.T) {
	for n, x := range append(straight(), apart()...) {
		var line []api.Place
		for _, b := range x.order {
			for i := range x.f.Blocks[b].Code {
				line = append(line, api.Place{Block: b, At: i})
			}
		}
		var calls []int
		for _, s := range x.spans {
			if s.Call {
				calls = append(calls, s.Var)
			}
		}
		// A map's order is another one in each run: what it could change shows up in one of many.
		for range 20 {
			if l := span.Line(x.f); !slices.Equal(l, line) {
				t.Errorf("%d: the line is %v; want %v", n, l, line)
			}
			if l := span.Spans(x.f); !slices.Equal(l, x.spans) {
				t.Errorf("%d: the spans are %v; want %v", n, l, x.spans)
			}
			if s := span.Calls(x.f); !slices.Equal(s, bitset.Of(calls...)) {
				t.Errorf("%d: kept across calls are %v; want %v", n, bitset.List(s), calls)
			}
		}
	}
}

// greatest is a function as great as one may be: its first block sets variables, its last one asks for them; those between call itself, and ask for nothing.
func greatest() api.Func {
	f := api.Func{Kinds: make([]int, api.MaxVars), Base: slices.Repeat([]int{-1}, api.MaxVars)}
	for b := range api.MaxBlocks {
		code := slices.Repeat([]api.Ins{{Op: api.OpCall, D: 47}}, api.MaxCode)
		for i := range code {
			switch b {
			case 0:
				code[i] = set(i)
			case api.MaxBlocks - 1:
				code[i] = ask(i)
			}
		}
		code[api.MaxCode-1] = jump(b + 1)
		f.Blocks = append(f.Blocks, api.Block{Code: code})
	}
	f.Blocks[39].Code[39] = answer(0)
	return f
}

// P15.1: a function of as many places as there may be.
func TestGreatest(t *testing.T) {
	f := greatest()
	if kind.Check(api.Prog{Funcs: []api.Func{f}}) != api.OK {
		t.Fatal("it may not be run")
	}
	want := []api.Span{{Var: 0, From: 1, To: 2 * 1599, Call: true}}
	across := []int{0}
	for v := 1; v < 39; v++ {
		want = append(want, api.Span{Var: v, From: 2*v + 1, To: 2 * (1560 + v), Call: true})
		across = append(across, v)
	}
	want = append(want, api.Span{Var: 47, From: 81, To: 2*1558 + 1})
	if l := span.Spans(f); !slices.Equal(l, want) {
		t.Errorf("the spans are %v", l)
	}
	if s := span.Calls(f); !slices.Equal(s, bitset.Of(across...)) {
		t.Errorf("kept across calls are %v", bitset.List(s))
	}
	line := span.Line(f)
	if len(line) != 1600 {
		t.Fatalf("the line has %d places", len(line))
	}
	for k, p := range line {
		if p.Block != k/40 || p.At != k%40 {
			t.Errorf("the place %d is %v", k, p)
		}
	}
}

// single is a function that sets 0 to 2 (Ints), 3 and 4 (Refs), 5 and 6 (Ders of 3), and 7 (an Int), then has x, and answers 7.
func single(x api.Ins) api.Func {
	f := api.Func{Kinds: []int{0, 0, 0, 1, 1, 2, 2, 0}, Base: []int{-1, -1, -1, -1, -1, 3, 3, -1}}
	return with(f, []api.Ins{
		set(0), set(1), set(2), {Op: api.OpAlloc, D: 3, N: 1, M: 1}, {Op: api.OpAlloc, D: 4},
		{Op: api.OpDerive, D: 5, A: 3}, {Op: api.OpDerive, D: 6, A: 3}, set(7), x, answer(7),
	})
}

// operations is an instruction of each operation that ends no block, asks for 0, 1, 3, 4 and 5 at most, and sets 2, 4 or 6.
func operations() []api.Ins {
	all := []api.Ins{{Op: api.OpMove, D: 2, A: 0}, {Op: api.OpMove, D: 4, A: 3}, {Op: api.OpCall, D: 2, N: 1, Args: []int{0, 3}}, {Op: api.OpPoll}}
	for op := api.OpConst; op <= api.OpPrint; op++ {
		row := sample.Row(op)
		if row == "---" {
			continue
		}
		x := api.Ins{Op: op}
		if row[0] != '-' {
			x.D = []int{2, 4, 6}[kindOf(row[0])]
		}
		if row[1] != '-' {
			x.A = []int{0, 3, 5}[kindOf(row[1])]
		}
		if row[2] != '-' {
			x.B = []int{1, 4}[kindOf(row[2])]
		}
		all = append(all, x)
	}
	return all
}

// kindOf is a letter's kind.
func kindOf(letter byte) int {
	return slices.Index([]byte("ird"), letter)
}

// P15.1: of each operation, what it asks for is there ahead of it, bases, too; what it sets is there behind it, though nobody asks for it; and OpCall alone keeps across it what is kept behind it.
func TestOperations(t *testing.T) {
	g := with(api.Func{Kinds: []int{0, 1}, Base: []int{-1, -1}, Params: 2}, []api.Ins{answer(0)})
	all := operations()
	if len(all) != 22 {
		t.Fatalf("there are %d operations", len(all))
	}
	for _, x := range all {
		f := single(x)
		if x.Op != api.OpPoll && kind.Check(api.Prog{Funcs: []api.Func{f, g}}) != api.OK {
			t.Fatalf("with %v it may not be run", x)
		}
		want := make([]api.Span, 8)
		for v := range want {
			want[v] = api.Span{Var: v, From: 2*v + 1, To: 2*v + 1}
		}
		want[3].To = 12
		for _, v := range shape.Uses(x) {
			want[v].To = 16
			if v == 5 {
				want[3].To = 16
			}
		}
		if d, ok := shape.Sets(x); ok {
			want[d].To = 17
		}
		want[7].To, want[7].Call = 18, x.Op == api.OpCall
		if l := span.Spans(f); !slices.Equal(l, want) {
			t.Errorf("with %v the spans are %v; want %v", x, l, want)
		}
	}
}

// P15.1: of Meet, all small spans in pairs, by their points one by one; Var and Call don't count.
func TestMeet(t *testing.T) {
	var all []api.Span
	for from := -3; from <= 4; from++ {
		for to := -3; to <= 4; to++ {
			all = append(all, api.Span{Var: 3 * from, From: from, To: to, Call: to%2 == 0})
		}
	}
	has := func(s api.Span, p int) bool { return s.From <= p && p <= s.To }
	for _, a := range all {
		for _, b := range all {
			meet := false
			for p := -3; p <= 4; p++ {
				meet = meet || has(a, p) && has(b, p)
			}
			if span.Meet(a, b) != meet {
				t.Errorf("Meet(%v, %v) isn't %t", a, b, meet)
			}
		}
	}
}

// P15.1: of Meet, spans of the least and greatest numbers.
func TestMeetFar(t *testing.T) {
	const least, most = math.MinInt, math.MaxInt
	for _, x := range []struct {
		a, b [2]int
		meet bool
	}{
		{[2]int{least, most}, [2]int{least, most}, true},
		{[2]int{least, most}, [2]int{0, 0}, true},
		{[2]int{least, least}, [2]int{least, most}, true},
		{[2]int{most, most}, [2]int{0, most}, true},
		{[2]int{least, least}, [2]int{most, most}, false},
		{[2]int{least, -1}, [2]int{0, most}, false},
		{[2]int{least, 0}, [2]int{0, most}, true},
		{[2]int{most, least}, [2]int{least, most}, false},
		{[2]int{most, least}, [2]int{most, least}, false},
		{[2]int{1, 0}, [2]int{least, most}, false},
		{[2]int{1 << 40, 1<<40 + 1}, [2]int{1, 1 << 39}, false},
		{[2]int{1 << 32, 1 << 32}, [2]int{0, 0}, false},
	} {
		a, b := api.Span{From: x.a[0], To: x.a[1]}, api.Span{From: x.b[0], To: x.b[1]}
		if span.Meet(a, b) != x.meet || span.Meet(b, a) != x.meet {
			t.Errorf("Meet(%v, %v) isn't %t", a, b, x.meet)
		}
	}
}

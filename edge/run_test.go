package edge_test

import (
	"slices"
	"testing"

	"portolan/api"
	"portolan/code"
	"portolan/edge"
	"portolan/kind"
	"portolan/run"
	"portolan/sample"
)

// told is a program, what it tells with all the steps that there are, and how many it takes, itself and split.
type told struct {
	p            api.Prog
	want         api.Trace
	steps, split int
}

// counting is a program that counts n down by one on a way round, whose branches lead on by critical edges; turned: those to one block and to another one are turned round.
func counting(n int, turned bool) api.Prog {
	first, last := api.Ins{Op: api.OpBranch, N: 2, M: 1}, api.Ins{Op: api.OpBranch, N: 1, M: 2}
	if turned {
		first, last = last, first
	}
	return one(api.Func{Kinds: []int{0, 0}, Base: []int{-1, -1}, Blocks: []api.Block{
		{Code: []api.Ins{{Op: api.OpConst, N: n}, {Op: api.OpConst, D: 1, N: 1}, first}},
		{Code: []api.Ins{{Op: api.OpPrint, A: 1}, {Op: api.OpSub, A: 0, B: 1}, last}},
		{Code: []api.Ins{{Op: api.OpPrint}, {Op: api.OpReturn}}},
	}})
}

// turning is a program that goes round by a branch alone, for ever.
func turning() api.Prog {
	return one(api.Func{Kinds: []int{0}, Base: []int{-1}, Blocks: []api.Block{
		{Code: []api.Ins{{Op: api.OpConst, N: 1}, {Op: api.OpJump, N: 1}}},
		{Code: []api.Ins{{Op: api.OpBranch, N: 1, M: 2}}},
		{Code: []api.Ins{{Op: api.OpReturn}}},
	}})
}

// trapping is a program that follows references by a way round, till there is none any more.
func trapping() api.Prog {
	return one(api.Func{Kinds: []int{0, 1}, Base: []int{-1, -1}, Blocks: []api.Block{
		{Code: []api.Ins{{Op: api.OpConst, N: 7}, {Op: api.OpAlloc, D: 1, N: 1}, {Op: api.OpJump, N: 1}}},
		{Code: []api.Ins{{Op: api.OpPrint}, {Op: api.OpLoadRef, D: 1, A: 1}, {Op: api.OpBranch, N: 1, M: 2}}},
		{Code: []api.Ins{{Op: api.OpReturn}}},
	}})
}

// P13.3: programs that are written out, with just so many steps.
func TestTold(t *testing.T) {
	for _, x := range []told{
		{counting(3, false), api.Trace{Events: []int{3}, End: api.EndHalt, Value: 3}, 5, 6},
		{counting(0, false), api.Trace{Events: []int{1, 1}, End: api.EndFuel}, 4000, 4000},
		{counting(0, true), api.Trace{Events: []int{0}, End: api.EndHalt}, 5, 6},
		{counting(1, true), api.Trace{Events: []int{1, 1, -1}, End: api.EndHalt, Value: -1}, 11, 14},
		{trapping(), api.Trace{Events: []int{7, 7}, End: api.EndTrap, Code: api.ErrNull}, 8, 9},
		{turning(), api.Trace{}, 4000, 4000},
	} {
		q, e := edge.Whole(x.p)
		if e != api.OK || len(edge.Critical(x.p.Funcs[0])) == 0 || code.Same(x.p, q) {
			t.Fatalf("%s becomes %s", shown(x.p), shown(q))
		}
		for n, p := range []api.Prog{x.p, q} {
			got := run.Run(p, 4000)
			if got.End == api.EndFuel {
				got.Events = got.Events[:min(len(got.Events), len(x.want.Events))]
			}
			if !sameTrace(got, x.want) || run.Steps(p, 4000) != []int{x.steps, x.split}[n] {
				t.Errorf("%s tells %s, behind %d steps", shown(p), shown(got), run.Steps(p, 4000))
			}
		}
		asBefore(t, x.p, q)
	}
}

// sameTrace tells whether two traces are alike.
func sameTrace(a, b api.Trace) bool {
	return slices.Equal(a.Events, b.Events) && a.End == b.End && a.Value == b.Value && a.Code == b.Code
}

// begins tells whether b goes on as a begins, and ends as it does, if it does.
func begins(a, b api.Trace) bool {
	if a.End != api.EndFuel {
		return sameTrace(a, b)
	}
	return len(a.Events) <= len(b.Events) && slices.Equal(a.Events, b.Events[:len(a.Events)])
}

// asBefore asks whether q tells what p does: with twice the steps at least as much, and never anything else.
func asBefore(t *testing.T, p, q api.Prog) {
	t.Helper()
	steps := run.Steps(p, 4000)
	for _, n := range []int{0, 1, 2, 3, 7, 20, 61, 400, 1999, 2000, steps / 2, steps - 1, steps} {
		tr := run.Run(p, n)
		if n > 0 && !begins(run.Run(q, n), tr) {
			t.Fatalf("with %d steps %s tells %s", n, shown(q), shown(run.Run(q, n)))
		}
		if n > 2000 {
			continue
		}
		for _, more := range []int{2 * n, 2*n + 1, 4000} {
			if got := run.Run(q, more); !begins(tr, got) {
				t.Fatalf("with %d steps %s tells %s, and with %d split %s", n, shown(p), shown(tr), more, shown(got))
			}
		}
	}
}

// P13.3: many programs that may be run, most of which go on for long.
func TestSameRun(t *testing.T) {
	split, halted, trapped := 0, 0, 0
	for _, p := range slices.Concat(sample.Runs()[:250], sample.Programs()[:700]) {
		q, e := edge.Whole(p)
		if e != api.OK || kind.Check(p) != api.OK || code.Same(p, q) {
			continue
		}
		asBefore(t, p, q)
		split++
		switch run.Run(p, 2000).End {
		case api.EndHalt:
			halted++
		case api.EndTrap:
			trapped++
		}
	}
	if split < 200 || halted < 50 || trapped < 50 {
		t.Errorf("%d programs alone were split, of which %d halted and %d trapped", split, halted, trapped)
	}
}

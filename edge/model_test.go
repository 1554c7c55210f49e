package edge_test

import (
	"fmt"
	"slices"

	"portolan/api"
	"portolan/sample"
)

// ends has for each block what it leads to.
type ends = sample.Ends

// critical is the critical edges, as the words tell them: each block beside each one that it leads to.
func critical(l ends) []api.Edge {
	var edges []api.Edge
	for from := range l {
		for to := range l {
			next := l.Where(func(b int) bool { return slices.Contains(l[from], b) })
			ahead := l.Where(func(b int) bool { return slices.Contains(l[b], to) })
			if slices.Contains(next, to) && len(next) > 1 && len(ahead) > 1 {
				edges = append(edges, api.Edge{From: from, To: to})
			}
		}
	}
	return edges
}

// modelled is what Split is to answer: each block leads to where the block of its edge will stand, if that is critical.
func modelled(f api.Func) (api.Func, api.Errno) {
	edges := critical(sample.EndsOf(f))
	n := len(f.Blocks)
	if n+len(edges) > 40 {
		return api.Func{}, 9
	}
	blocks := f.Blocks
	f.Blocks = nil
	for b, x := range blocks {
		by := func(to int) int {
			if i := slices.Index(edges, api.Edge{From: b, To: to}); i >= 0 {
				return n + i
			}
			return to
		}
		code := slices.Clone(x.Code)
		last := &code[len(code)-1]
		last.N, last.M = by(last.N), by(last.M)
		f.Blocks = append(f.Blocks, api.Block{Code: code})
	}
	for _, e := range edges {
		f.Blocks = append(f.Blocks, sample.Jump(e.To))
	}
	return f, 0
}

// one is a program of one function.
func one(f api.Func) api.Prog {
	return api.Prog{Funcs: []api.Func{f}}
}

// many is programs: all small functions, great ones, such as ask for all kinds of things, and such as may be run.
func many() []api.Prog {
	var all []api.Prog
	for _, l := range sample.Many() {
		all = append(all, one(l.Function()))
	}
	return slices.Concat(all, sample.Programs(), sample.Runs())
}

// few is programs for the rules.
func few() []api.Prog {
	all := slices.Concat(sample.Programs()[:150], sample.Runs()[:50], sample.Programs()[1240:])
	for _, x := range writtenOut() {
		all = append(all, one(x.l.Function()))
	}
	for _, x := range sample.Most() {
		all = append(all, one(x.Function()))
	}
	return all
}

// shown is the beginning of what is told of a fault.
func shown(x any) string {
	s := fmt.Sprint(x)
	return s[:min(len(s), 1500)]
}

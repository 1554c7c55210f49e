package kind_test

import (
	"fmt"
	"slices"

	"portolan/api"
	"portolan/sample"
	"portolan/shape"
)

// fits tells, apart from the package, whether an instruction's kinds fit in p's function n, which is there.
func fits(p api.Prog, n int, x api.Ins) bool {
	f := p.Funcs[n]
	if x.Op < 1 || x.Op > 23 {
		return false
	}
	row := sample.Row(x.Op)
	for i, v := range []int{x.D, x.A, x.B} {
		if row[i] != '-' && letter(f, v) != row[i] {
			return false
		}
	}
	switch x.Op {
	case 2:
		return letter(f, x.D) == letter(f, x.A) && (letter(f, x.D) == 'i' || letter(f, x.D) == 'r')
	case 15:
		return f.Base[x.D] == x.A
	case 16:
		return f.Base[x.D] == f.Base[x.A]
	case 19:
		return callFits(p, f, x)
	case 23:
		return letter(f, x.A) == "ir"[f.Result]
	}
	return true
}

// callFits tells whether a call's answer and arguments fit.
func callFits(p api.Prog, f api.Func, x api.Ins) bool {
	if x.N < 0 || x.N >= len(p.Funcs) || len(x.Args) > len(p.Funcs[x.N].Kinds) {
		return false
	}
	g := p.Funcs[x.N]
	for i, v := range x.Args {
		if letter(f, v) != letter(g, i) {
			return false
		}
	}
	return letter(f, x.D) == "ir"[g.Result]
}

// letter is a variable's kind as a letter; a blank of one that isn't there.
func letter(f api.Func, v int) byte {
	if v < 0 || v >= len(f.Kinds) {
		return ' '
	}
	return "ird"[f.Kinds[v]]
}

// sets tells whether an instruction has v as D.
func sets(x api.Ins, v int) bool {
	d, ok := shape.Sets(x)
	return ok && d == v
}

// question is of a variable at a place.
type question struct {
	at api.Place
	v  int
}

// model is a function, and of each of its blocks which reached ones lead to it.
type model struct {
	f     api.Func
	reach []int
	prev  [][]int
}

// modelOf is a function's.
func modelOf(f api.Func) model {
	l := make(sample.Ends, len(f.Blocks))
	for b, x := range f.Blocks {
		l[b] = shape.Next(x.Code[len(x.Code)-1])
	}
	m := model{f: f, reach: l.Reach(), prev: make([][]int, len(l))}
	for _, b := range m.reach {
		for _, n := range l[b] {
			m.prev[n] = append(m.prev[n], b)
		}
	}
	return m
}

// what an instruction says of a question at the place behind it: all is well, all is not, or another one's answer, ahead of it.
const (
	well = iota
	ill
	ahead
)

// ill tells whether there is a way to a place of a reached block on which all is not well with v: against all ways, from the place on.
func (m model) ill(at api.Place, v int, says func(x api.Ins, v int) (int, int), begin func(v int) bool) bool {
	met := map[question]bool{}
	open := []question{{at, v}}
	for ; len(open) > 0; open = open[1:] {
		q := open[0]
		if met[q] {
			continue
		}
		met[q] = true
		if q.at.At == 0 {
			if q.at.Block == 0 && !begin(q.v) {
				return true
			}
			for _, b := range m.prev[q.at.Block] {
				open = append(open, question{api.Place{Block: b, At: len(m.f.Blocks[b].Code)}, q.v})
			}
			continue
		}
		q.at.At--
		answer, other := says(m.f.Blocks[q.at.Block].Code[q.at.At], q.v)
		if answer == ill {
			return true
		}
		if answer == ahead {
			open = append(open, question{q.at, other})
		}
	}
	return false
}

// isSet tells whether a variable is set at a place of a reached block.
func (m model) isSet(at api.Place, v int) bool {
	says := func(x api.Ins, v int) (int, int) {
		if sets(x, v) {
			return well, v
		}
		return ahead, v
	}
	return !m.ill(at, v, says, func(v int) bool { return v < m.f.Params })
}

// isFresh tells whether a variable is a Der that is fresh at a place of a reached block.
func (m model) isFresh(at api.Place, v int) bool {
	says := func(x api.Ins, v int) (int, int) {
		switch {
		case sets(x, v) && x.Op == 16 && letter(m.f, x.A) == 'd':
			return ahead, x.A
		case sets(x, v) && x.Op == 16, sets(x, m.f.Base[v]):
			return ill, v
		case sets(x, v):
			return well, v
		}
		return ahead, v
	}
	return letter(m.f, v) == 'd' && !m.ill(at, v, says, func(int) bool { return false })
}

// of is the variables of which something holds at a place, rising.
func (m model) of(at api.Place, holds func(at api.Place, v int) bool) []int {
	var l []int
	for v := range m.f.Kinds {
		if holds(at, v) {
			l = append(l, v)
		}
	}
	return l
}

// fails tells whether something fails of a variable that a reached block asks for.
func (m model) fails(holds func(at api.Place, v int) bool) bool {
	for _, b := range m.reach {
		for i, x := range m.f.Blocks[b].Code {
			for _, v := range shape.Uses(x) {
				if !holds(api.Place{Block: b, At: i}, v) {
					return true
				}
			}
		}
	}
	return false
}

// check is what the chapter's words say of a program.
func check(p api.Prog) api.Errno {
	if shape.Check(p) != 0 {
		return 5
	}
	var unset, stale bool
	for n, f := range p.Funcs {
		for _, b := range f.Blocks {
			if slices.ContainsFunc(b.Code, func(x api.Ins) bool { return !fits(p, n, x) }) {
				return 6
			}
		}
		m := modelOf(f)
		unset = unset || m.fails(m.isSet)
		stale = stale || m.fails(func(at api.Place, v int) bool { return letter(f, v) != 'd' || m.isFresh(at, v) })
	}
	switch {
	case unset:
		return 7
	case stale:
		return 8
	}
	return 0
}

// shown is the beginning of what is told of a fault.
func shown(x any) string {
	s := fmt.Sprint(x)
	return s[:min(len(s), 1500)]
}

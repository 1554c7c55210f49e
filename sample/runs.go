package sample

import (
	"slices"

	"portolan/api"
)

// Runs is programs that may be run, of which most take many steps: their functions go round loops that are counted, call one another and themselves, make objects and ask them. They end in each way.
func Runs() []api.Prog {
	var all []api.Prog
	d := dice(9)
	for range 500 {
		all = append(all, d.running(d.to(1, 4)))
	}
	return all
}

// running is such a program, of so many functions.
func (d *dice) running(funcs int) api.Prog {
	var p api.Prog
	for n := range funcs {
		p.Funcs = append(p.Funcs, d.paced(n))
	}
	for n, f := range p.Funcs {
		w := newPacer(writer{dice: d, p: p, f: f, sets: Of(f, api.Ref)})
		p.Funcs[n].Blocks = w.all(n)
	}
	return p
}

// The Ints that each function of these has ahead of others: how deep it may call on, which is handed to it; 1; what is asked ahead of a branch; and what counts loops within one another.
const (
	depth = iota
	one
	test
	outer
	inner
	paces
)

// paced is a function without blocks; all but the first one take arguments.
func (d *dice) paced(n int) api.Func {
	f := api.Func{Kinds: slices.Repeat([]int{api.Int}, paces)}
	for range d.to(2, 4) {
		f.Kinds = append(f.Kinds, api.Int)
	}
	for range d.to(2, 4) {
		f.Kinds = append(f.Kinds, api.Ref)
	}
	for range d.to(0, 4) {
		f.Kinds = append(f.Kinds, api.Der)
	}
	if n > 0 {
		f.Params, f.Result = d.to(1, api.MaxArgs), d.to(api.Int, api.Ref)
		// Arguments stand first: those behind the depth push the rest on.
		for range f.Params - 1 {
			f.Kinds = slices.Insert(f.Kinds, 1, d.to(api.Int, api.Ref))
		}
	}
	f.Base = slices.Repeat([]int{-1}, len(f.Kinds))
	for _, v := range Of(f, api.Der) {
		f.Base[v] = d.one(Of(f, api.Ref))
	}
	return f
}

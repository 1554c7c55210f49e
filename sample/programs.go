package sample

import (
	"slices"

	"portolan/api"
)

// Programs is programs that may be, and whose instructions' kinds fit: small ones, and some great ones. In many of them all that is asked for is set, and each Der fresh.
func Programs() []api.Prog {
	var all []api.Prog
	d := dice(7)
	for range 1200 {
		all = append(all, d.program(d.to(1, 3), d.to(3, 8), d.to(1, 7), d.to(2, 10)))
	}
	for range 40 {
		all = append(all, d.program(d.to(1, 3), d.to(8, 20), d.to(8, 40), d.to(1, 4)))
	}
	return append(all, d.program(8, 36, 40, 40))
}

// Of is a function's variables of that kind, rising.
func Of(f api.Func, kind int) []int {
	var l []int
	for v, k := range f.Kinds {
		if k == kind {
			l = append(l, v)
		}
	}
	return l
}

// program is one of so many functions, each of at most so many variables, blocks, and instructions of each block (behind those that the first one begins with).
func (d *dice) program(funcs, vars, blocks, code int) api.Prog {
	var p api.Prog
	for range funcs {
		p.Funcs = append(p.Funcs, d.signature(d.to(2, vars)))
	}
	p.Funcs[0].Params, p.Funcs[0].Result = 0, api.Int
	for n, f := range p.Funcs {
		w := writer{dice: d, p: p, f: f, sets: d.sets(f)}
		p.Funcs[n].Blocks = w.blocks(d.ends(d.to(1, blocks)), code)
	}
	return p
}

// signature is a function without blocks, that has an Int and a Ref at least.
func (d *dice) signature(vars int) api.Func {
	f := api.Func{Kinds: []int{api.Int, api.Ref}, Result: d.to(api.Int, api.Ref)}
	for len(f.Kinds) < vars {
		f.Kinds = slices.Insert(f.Kinds, d.to(0, len(f.Kinds)), d.to(api.Int, api.Der))
	}
	ahead := slices.Index(append(f.Kinds, api.Der), api.Der)
	f.Params = d.to(0, min(ahead, api.MaxArgs))
	f.Base = slices.Repeat([]int{-1}, vars)
	for _, v := range Of(f, api.Der) {
		f.Base[v] = d.one(Of(f, api.Ref))
	}
	return f
}

// sets is the Refs that a function's instructions set, but for those that it begins with: in half of the functions all, else those that are no bases, if there are such ones.
func (d *dice) sets(f api.Func) []int {
	all := Of(f, api.Ref)
	free := slices.DeleteFunc(slices.Clone(all), func(v int) bool { return slices.Contains(f.Base, v) })
	if len(free) == 0 || d.to(0, 1) == 0 {
		return all
	}
	return free
}

// ends is so many blocks, which lead anywhere, onward alone, or not far.
func (d *dice) ends(n int) Ends {
	switch {
	case n == 1:
		return Ends{nil}
	case d.to(0, 3) == 0:
		return d.anywhere(n)
	case d.to(0, 2) == 0:
		return d.onward(n)
	}
	return d.near(n, 4)
}

// one is one of a list.
func (d *dice) one(l []int) int {
	return l[d.to(0, len(l)-1)]
}

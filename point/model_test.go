package point_test

import (
	"fmt"
	"slices"

	"portolan/api"
	"portolan/edge"
	"portolan/sample"
)

// ends has for each block what it leads to.
type ends = sample.Ends

// poll is the one instruction that is laid.
func poll() api.Ins {
	return api.Ins{Op: 24}
}

// turns is the blocks from which an edge turns back, as the words tell them: it leads from a reached block to one that doesn't stand behind it in the order of a walk.
func turns(l ends) []int {
	order := l.Order()
	return l.Where(func(b int) bool {
		back := func(to int) bool { return slices.Index(order, to) <= slices.Index(order, b) }
		return slices.Contains(order, b) && slices.ContainsFunc(l[b], back)
	})
}

// polled is a function with a poll ahead of the last instruction of each of these blocks.
func polled(f api.Func, blocks []int) api.Func {
	f.Blocks = slices.Clone(f.Blocks)
	for _, b := range blocks {
		var code []api.Ins
		for i, x := range f.Blocks[b].Code {
			if i == len(f.Blocks[b].Code)-1 {
				code = append(code, poll())
			}
			code = append(code, x)
		}
		f.Blocks[b].Code = code
	}
	return f
}

// unpolled is a function without its polls.
func unpolled(f api.Func) api.Func {
	f.Blocks = slices.Clone(f.Blocks)
	for b, x := range f.Blocks {
		f.Blocks[b].Code = slices.DeleteFunc(slices.Clone(x.Code), func(x api.Ins) bool { return x.Op == 24 })
	}
	return f
}

// modelled is what Lay is to answer.
func modelled(f api.Func) (api.Func, api.Errno) {
	f, e := edge.Split(f)
	if e != api.OK {
		return api.Func{}, 9
	}
	f = polled(f, turns(sample.EndsOf(f)))
	for _, b := range f.Blocks {
		if len(b.Code) > 40 {
			return api.Func{}, 9
		}
	}
	return f, 0
}

// points is what Points is to answer.
func points(f api.Func) []api.Place {
	var l []api.Place
	for b := range f.Blocks {
		for i := range f.Blocks[b].Code {
			switch f.Blocks[b].Code[i].Op {
			case 10, 19, 24:
				l = append(l, api.Place{Block: b, At: i})
			}
		}
	}
	return l
}

// padded is a function whose block b has so many instructions, the last one as before.
func padded(f api.Func, b, size int) api.Func {
	f.Blocks = slices.Clone(f.Blocks)
	code := f.Blocks[b].Code
	more := slices.Repeat([]api.Ins{{Op: 3, D: 1, A: 2, B: 3}}, size-1)
	f.Blocks[b].Code = append(more, code[len(code)-1])
	return f
}

// one is a program of one function.
func one(f api.Func) api.Prog {
	return api.Prog{Funcs: []api.Func{f}}
}

// many is programs: all small functions, great ones, some of them of long blocks, such as ask for all kinds of things, and such as may be run.
func many() []api.Prog {
	var all []api.Prog
	for n, l := range sample.Many() {
		f := l.Function()
		if n%5 == 0 {
			f = padded(f, n%len(l), 38+n%3)
		}
		all = append(all, one(f))
	}
	return slices.Concat(all, sample.Programs(), sample.Runs())
}

// few is programs for the rules.
func few() []api.Prog {
	all := slices.Concat(sample.Programs()[:150], sample.Runs()[:50], sample.Programs()[1240:])
	for _, x := range slices.Concat(plain(), crossed()) {
		all = append(all, one(x.l.Function()))
	}
	for _, x := range sample.Most() {
		all = append(all, one(x.Function()))
	}
	return all
}

// shown is the beginning of what is told of a fault.
func shown(x any) string {
	s := fmt.Sprint(x)
	return s[:min(len(s), 1500)]
}

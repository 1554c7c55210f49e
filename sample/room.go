package sample

import (
	"math"
	"slices"

	"portolan/api"
)

// Far is numbers that no block has.
func Far() []int {
	return []int{math.MinInt, -1 << 32, -41, -2, -1, 40, 41, 1 << 32, 1<<32 + 1, math.MaxInt}
}

// Roomy is a function with spare room, which is marked, behind each list.
func Roomy(f api.Func) api.Func {
	f.Kinds, f.Base = Room(f.Kinds, 77), Room(f.Base, 77)
	blocks := Room(f.Blocks, api.Block{Code: []api.Ins{{Op: 77}}})
	for b := range blocks {
		code := Room(blocks[b].Code, api.Ins{Op: 21, N: 77})
		for i := range code {
			code[i].Args = Room(code[i].Args, 77)
		}
		blocks[b].Code = code
	}
	f.Blocks = blocks
	return f
}

// Bare is a function alike, whose instructions' lists are nil where they hold nothing.
func Bare(f api.Func) api.Func {
	f = Roomy(f)
	for _, b := range f.Blocks {
		for i, x := range b.Code {
			if len(x.Args) == 0 {
				b.Code[i].Args = nil
			}
		}
	}
	return f
}

// RoomyProgram is a program with spare room, which is marked, behind each list.
func RoomyProgram(p api.Prog) api.Prog {
	funcs := Room(p.Funcs, api.Func{Params: 77})
	for n := range funcs {
		funcs[n] = Roomy(funcs[n])
	}
	return api.Prog{Funcs: funcs}
}

// RoomyHeap is a heap with spare room, which is marked, behind each list.
func RoomyHeap(h api.Heap) api.Heap {
	objs := Room(h.Objs, api.Obj{Refs: []int{77}, Ints: []int{77}})
	for i, o := range objs {
		objs[i] = api.Obj{Refs: Room(o.Refs, 77), Ints: Room(o.Ints, 77)}
	}
	return api.Heap{Objs: objs}
}

// Room is a list of its own memory, behind which x stands in spare room.
func Room[T any](l []T, x T) []T {
	return append(slices.Clone(l), x)[:len(l)]
}

// Whole is a copy of a roomy function, with what stands in its spare room.
func Whole(f api.Func) api.Func {
	f.Kinds, f.Base = Spare(f.Kinds), Spare(f.Base)
	blocks := Spare(f.Blocks)
	for b := range len(blocks) - 1 {
		code := Spare(blocks[b].Code)
		for i := range len(code) - 1 {
			code[i].Args = Spare(code[i].Args)
		}
		blocks[b].Code = code
	}
	f.Blocks = blocks
	return f
}

// WholeProgram is a copy of a roomy program, with what stands in its spare room.
func WholeProgram(p api.Prog) api.Prog {
	funcs := Spare(p.Funcs)
	for n := range len(funcs) - 1 {
		funcs[n] = Whole(funcs[n])
	}
	return api.Prog{Funcs: funcs}
}

// WholeHeap is a copy of a roomy heap, with what stands in its spare room.
func WholeHeap(h api.Heap) api.Heap {
	objs := Spare(h.Objs)
	for i, o := range objs[:len(h.Objs)] {
		objs[i] = api.Obj{Refs: Spare(o.Refs), Ints: Spare(o.Ints)}
	}
	return api.Heap{Objs: objs}
}

// Spare is a copy of a list, and of what stands in the spare room that Room made.
func Spare[T any](l []T) []T {
	return slices.Clone(l[:len(l)+1])
}

// Wipe clears all that a program has.
func Wipe(p api.Prog) {
	for _, f := range p.Funcs {
		for _, b := range f.Blocks {
			for _, x := range b.Code {
				clear(x.Args)
			}
			clear(b.Code)
		}
		clear(f.Kinds)
		clear(f.Base)
		clear(f.Blocks)
	}
	clear(p.Funcs)
}

// Parted tells whether no two lists of a program share memory, in their spare room neither: it numbers all that they have room for, and asks whether each number stands there yet. What the program had is lost.
func Parted(p api.Prog) bool {
	n, parted := 0, true
	number := func(x *int) { n, *x = n+1, n }
	overFuncs(p.Funcs, number)
	n = 0
	overFuncs(p.Funcs, func(x *int) { n, parted = n+1, parted && *x == n })
	return parted
}

// overFuncs goes to a number of each place in functions' lists, in their spare room, too.
func overFuncs(l []api.Func, visit func(x *int)) {
	l = l[:cap(l)]
	for i := range l {
		f := &l[i]
		visit(&f.Params)
		over(f.Kinds, visit)
		over(f.Base, visit)
		overBlocks(f.Blocks, visit)
	}
}

// overBlocks does so with blocks. One without room for code gets some, so that it has a number, too.
func overBlocks(l []api.Block, visit func(x *int)) {
	l = l[:cap(l)]
	for b := range l {
		if cap(l[b].Code) == 0 {
			l[b].Code = make([]api.Ins, 1)
		}
		code := l[b].Code[:cap(l[b].Code)]
		for i := range code {
			visit(&code[i].D)
			over(code[i].Args, visit)
		}
	}
}

// over does so with numbers.
func over(l []int, visit func(x *int)) {
	l = l[:cap(l)]
	for i := range l {
		visit(&l[i])
	}
}

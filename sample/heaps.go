package sample

import (
	"slices"

	"portolan/api"
)

// Heaps is heaps that are right: none, small and great objects, few and many of them.
func Heaps() []api.Heap {
	all := []api.Heap{{}, {Objs: []api.Obj{{}}}, {Objs: []api.Obj{{}, {}, {}}}}
	d := dice(8)
	for range 300 {
		all = append(all, d.heap(d.to(1, 5), 3), d.heap(d.to(1, 9), 8))
	}
	for range 20 {
		all = append(all, d.heap(d.to(10, 60), 3))
	}
	return append(all, d.heap(80, 8))
}

// heap is one of so many objects, each of at most so many references and numbers. A part of the references is none, the others are names, among them the object's own.
func (d *dice) heap(objs, fields int) api.Heap {
	h := api.Heap{Objs: make([]api.Obj, objs)}
	for i := range h.Objs {
		refs, ints := make([]int, d.to(0, fields)), make([]int, d.to(0, fields))
		for n := range refs {
			refs[n] = max(d.to(-objs/2, objs), 0)
		}
		for n := range ints {
			ints[n] = d.to(-3, 100)
		}
		h.Objs[i] = api.Obj{Refs: refs, Ints: ints}
	}
	return h
}

// CopiedHeap is a heap alike, of its own memory.
func CopiedHeap(h api.Heap) api.Heap {
	objs := slices.Clone(h.Objs)
	for i, o := range objs {
		objs[i] = api.Obj{Refs: slices.Clone(o.Refs), Ints: slices.Clone(o.Ints)}
	}
	return api.Heap{Objs: objs}
}

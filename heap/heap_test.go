package heap_test

import (
	"math"
	"slices"
	"testing"

	"portolan/api"
	"portolan/heap"
)

// three is objects of which 1 leads to itself and to 3, 2 to 1, and 3 to none.
func three() api.Heap {
	return api.Heap{Objs: []api.Obj{
		{Refs: []int{1, 0, 3}, Ints: []int{5}},
		{Refs: []int{1}, Ints: []int{-7, 8}},
		{Refs: []int{0}, Ints: []int{9, math.MaxInt, math.MinInt}},
	}}
}

// wrong is three, but that 2 leads to what isn't there.
func wrong() api.Heap {
	h := three()
	h.Objs[1].Refs[0] = 4
	return h
}

// far is numbers that no heap of the tests has as names, nor as numbers of fields.
func far() []int {
	return []int{math.MinInt, math.MinInt + 1, -1 << 32, -9, -1, 1 << 20, 1 << 32, 1<<32 + 1, math.MaxInt - 1, math.MaxInt}
}

// heaped asks whether a heap, answered beside e, is what it should be.
func heaped(t *testing.T, what string, got, want api.Heap, e, wantE api.Errno) {
	t.Helper()
	if e != wantE || !same(got, want) {
		t.Errorf("%s: %v, %d; want %v, %d", what, shown(got), e, shown(want), wantE)
	}
}

// P9.1: of Right, heaps of one kind of fault, and of none.
func TestRight(t *testing.T) {
	one := func(refs, ints int) api.Heap {
		return api.Heap{Objs: []api.Obj{{Refs: make([]int, refs), Ints: make([]int, ints)}}}
	}
	leads := func(l ...int) api.Heap { return api.Heap{Objs: []api.Obj{{}, {Refs: l}, {}}} }
	for _, x := range []struct {
		h    api.Heap
		want bool
	}{
		{api.Heap{}, true},
		{api.Heap{Objs: []api.Obj{}}, true},
		{api.Heap{Objs: make([]api.Obj, 5000)}, true},
		{three(), true},
		{wrong(), false},
		{one(0, 0), true},
		{one(8, 8), true},
		{one(8, 0), true},
		{one(0, 8), true},
		{one(9, 8), false},
		{one(8, 9), false},
		{one(9, 0), false},
		{one(0, 9), false},
		{one(1<<16, 0), false},
		{one(0, 1<<16), false},
		{leads(0), true},
		{leads(1), true},
		{leads(2), true},
		{leads(3), true},
		{leads(4), false},
		{leads(-1), false},
		{leads(1, 2, 3, 0, 3, 2, 1, 3), true},
		{leads(1, 2, 3, 0, 3, 2, 1, 4), false},
		{leads(-1, 2, 3, 0, 3, 2, 1, 0), false},
	} {
		if heap.Right(x.h) != x.want {
			t.Errorf("Right(%s) isn't %t", shown(x.h), x.want)
		}
	}
	for _, n := range far() {
		if heap.Right(leads(0, n, 1)) {
			t.Errorf("a reference of %d is right", n)
		}
		h := three()
		h.Objs[2].Ints[1] = n
		if !heap.Right(h) {
			t.Errorf("a number of %d isn't right", n)
		}
	}
}

// P9.1: of Alloc, each size of an object, and sizes that no object has.
func TestAlloc(t *testing.T) {
	sizes := append(far(), 0, 1, 2, 3, 4, 5, 6, 7, 8, 9, 10)
	for _, h := range []api.Heap{{}, three(), {Objs: make([]api.Obj, 5000)}} {
		for _, refs := range sizes {
			for _, ints := range sizes {
				got, id, e := heap.Alloc(h, refs, ints)
				want, wantID, wantE := h, 0, api.ErrArg
				if refs >= 0 && refs <= 8 && ints >= 0 && ints <= 8 {
					o := api.Obj{Refs: make([]int, refs), Ints: make([]int, ints)}
					want, wantID, wantE = api.Heap{Objs: append(slices.Clone(h.Objs), o)}, len(h.Objs)+1, api.OK
				}
				heaped(t, "Alloc", got, want, e, wantE)
				if id != wantID {
					t.Errorf("an object of %d references and %d numbers has the name %d; want %d", refs, ints, id, wantID)
				}
			}
		}
	}
	got, id, e := heap.Alloc(wrong(), 1, 2)
	heaped(t, "Alloc", got, wrong(), e, api.ErrArg)
	if id != 0 {
		t.Errorf("beside an error the name is %d", id)
	}
}

// P9.1: the example of the chapter.
func TestExample(t *testing.T) {
	h, id, e := heap.Alloc(api.Heap{}, 1, 2)
	if id != 1 || e != api.OK {
		t.Fatal(id, e)
	}
	if n, e := heap.Load(h, 1, 1); n != 0 || e != api.OK {
		t.Error(n, e)
	}
	if n, e := heap.Load(h, 1, 2); n != 0 || e != api.ErrBound {
		t.Error(n, e)
	}
}

// P9.1: of Load and Ref, each field, and what is none.
func TestFields(t *testing.T) {
	for _, x := range []struct {
		obj, n     int
		load, ref  int
		loadE, toE api.Errno
	}{
		{1, 0, 5, 1, api.OK, api.OK},
		{1, 1, 0, 0, api.ErrBound, api.OK},
		{1, 2, 0, 3, api.ErrBound, api.OK},
		{1, 3, 0, 0, api.ErrBound, api.ErrBound},
		{1, -1, 0, 0, api.ErrBound, api.ErrBound},
		{2, 0, -7, 1, api.OK, api.OK},
		{2, 1, 8, 0, api.OK, api.ErrBound},
		{3, 0, 9, 0, api.OK, api.OK},
		{3, 1, math.MaxInt, 0, api.OK, api.ErrBound},
		{3, 2, math.MinInt, 0, api.OK, api.ErrBound},
		{3, 3, 0, 0, api.ErrBound, api.ErrBound},
		{0, 0, 0, 0, api.ErrNull, api.ErrNull},
		{0, -1, 0, 0, api.ErrNull, api.ErrNull},
		{0, 9, 0, 0, api.ErrNull, api.ErrNull},
		{4, 0, 0, 0, api.ErrArg, api.ErrArg},
		{4, 9, 0, 0, api.ErrArg, api.ErrArg},
		{-1, 0, 0, 0, api.ErrArg, api.ErrArg},
		{-1, -1, 0, 0, api.ErrArg, api.ErrArg},
	} {
		if n, e := heap.Load(three(), x.obj, x.n); n != x.load || e != x.loadE {
			t.Errorf("Load of %d, %d: %d, %d", x.obj, x.n, n, e)
		}
		if n, e := heap.Ref(three(), x.obj, x.n); n != x.ref || e != x.toE {
			t.Errorf("Ref of %d, %d: %d, %d", x.obj, x.n, n, e)
		}
	}
	if n, e := heap.Load(api.Heap{}, 1, 0); n != 0 || e != api.ErrArg {
		t.Errorf("Load of nothing: %d, %d", n, e)
	}
}

// P9.1, P9.2: of Store, each field, whatever is stored, and what is none.
func TestStore(t *testing.T) {
	for _, value := range append(far(), 0, 1, 4, 77) {
		for obj, o := range three().Objs {
			for n := range o.Ints {
				got, e := heap.Store(three(), obj+1, n, value)
				want := three()
				want.Objs[obj].Ints[n] = value
				heaped(t, "Store", got, want, e, api.OK)
				if x, e := heap.Load(got, obj+1, n); x != value || e != api.OK {
					t.Errorf("%d is stored, and %d loaded, %d", value, x, e)
				}
			}
			for _, n := range append(far(), len(o.Ints), len(o.Ints)+1) {
				got, e := heap.Store(three(), obj+1, n, value)
				heaped(t, "Store", got, three(), e, api.ErrBound)
			}
		}
		got, e := heap.Store(three(), 0, 0, value)
		heaped(t, "Store", got, three(), e, api.ErrNull)
		got, e = heap.Store(three(), 4, 0, value)
		heaped(t, "Store", got, three(), e, api.ErrArg)
	}
}

// P9.1, P9.2: of Link, each field, to each object, and to none, and what is none.
func TestLink(t *testing.T) {
	for to := range 4 {
		for obj, o := range three().Objs {
			for n := range o.Refs {
				got, e := heap.Link(three(), obj+1, n, to)
				want := three()
				want.Objs[obj].Refs[n] = to
				heaped(t, "Link", got, want, e, api.OK)
				if x, e := heap.Ref(got, obj+1, n); x != to || e != api.OK {
					t.Errorf("it is linked to %d, and leads to %d, %d", to, x, e)
				}
			}
			for _, n := range append(far(), len(o.Refs), len(o.Refs)+1) {
				got, e := heap.Link(three(), obj+1, n, to)
				heaped(t, "Link", got, three(), e, api.ErrBound)
			}
		}
	}
	for _, to := range append(far(), 4) {
		got, e := heap.Link(three(), 1, 0, to)
		heaped(t, "Link", got, three(), e, api.ErrArg)
	}
}

// P9.1, and rules 2 and 3 of P1: of several errors the first one is answered, beside nothing but the heap as it was.
func TestErrorsOrder(t *testing.T) {
	for _, x := range []struct {
		h             api.Heap
		obj, n, to    int
		fields, links api.Errno
	}{
		{wrong(), 1, 0, 0, api.ErrArg, api.ErrArg},
		{wrong(), 0, 0, 0, api.ErrArg, api.ErrArg},
		{wrong(), 0, 9, 9, api.ErrArg, api.ErrArg},
		{wrong(), 1, 9, 0, api.ErrArg, api.ErrArg},
		{wrong(), 9, 9, 9, api.ErrArg, api.ErrArg},
		{three(), 0, 0, 9, api.ErrNull, api.ErrNull},
		{three(), 0, 9, -1, api.ErrNull, api.ErrNull},
		{three(), 0, -1, 0, api.ErrNull, api.ErrNull},
		{three(), 9, 9, 0, api.ErrArg, api.ErrArg},
		{three(), -1, -1, 0, api.ErrArg, api.ErrArg},
		{three(), 1, 9, 9, api.ErrBound, api.ErrArg},
		{three(), 1, -1, -1, api.ErrBound, api.ErrArg},
		{three(), 1, 9, 3, api.ErrBound, api.ErrBound},
		{api.Heap{}, 0, 0, 1, api.ErrNull, api.ErrNull},
		{api.Heap{}, 1, 0, 0, api.ErrArg, api.ErrArg},
	} {
		if n, e := heap.Load(x.h, x.obj, x.n); n != 0 || e != x.fields {
			t.Errorf("Load of %d, %d: %d, %d", x.obj, x.n, n, e)
		}
		if n, e := heap.Ref(x.h, x.obj, x.n); n != 0 || e != x.fields {
			t.Errorf("Ref of %d, %d: %d, %d", x.obj, x.n, n, e)
		}
		got, e := heap.Store(x.h, x.obj, x.n, x.to)
		heaped(t, "Store", got, x.h, e, x.fields)
		got, e = heap.Link(x.h, x.obj, x.n, x.to)
		heaped(t, "Link", got, x.h, e, x.links)
	}
}

// P9.1: of Reach, ways round, roots that are none, or there more than once.
func TestReach(t *testing.T) {
	leads := func(l ...[]int) api.Heap {
		var h api.Heap
		for _, refs := range l {
			h.Objs = append(h.Objs, api.Obj{Refs: refs, Ints: []int{1, 2}})
		}
		return h
	}
	row := leads([]int{2}, []int{3}, []int{4}, []int{5}, nil)
	back := leads(nil, []int{1}, []int{2, 0}, []int{0, 3}, []int{4})
	round := leads([]int{0, 3}, []int{1}, []int{2, 2}, []int{1, 4})
	fork := leads([]int{5, 4}, []int{2}, []int{6}, []int{6, 5}, nil, nil)
	for _, x := range []struct {
		h           api.Heap
		roots, want []int
	}{
		{row, nil, nil},
		{row, []int{}, nil},
		{row, []int{0}, nil},
		{row, []int{-1, 6, 0, math.MinInt, math.MaxInt, 1<<32 + 1}, nil},
		{row, []int{5}, []int{5}},
		{row, []int{1}, []int{1, 2, 3, 4, 5}},
		{row, []int{4, 3, 4}, []int{3, 4, 5}},
		{row, []int{6, 4, -1, 0}, []int{4, 5}},
		{back, []int{1}, []int{1}},
		{back, []int{5}, []int{1, 2, 3, 4, 5}},
		{back, []int{2, 3}, []int{1, 2, 3}},
		{round, []int{1}, []int{1, 2, 3}},
		{round, []int{2}, []int{1, 2, 3}},
		{round, []int{4}, []int{1, 2, 3, 4}},
		{fork, []int{1}, []int{1, 4, 5, 6}},
		{fork, []int{2}, []int{2}},
		{fork, []int{3, 2}, []int{2, 3, 6}},
		{fork, []int{6, 5, 4, 3, 2, 1}, []int{1, 2, 3, 4, 5, 6}},
		{api.Heap{}, []int{0, 1, -1}, nil},
		{wrong(), []int{1}, nil},
		{wrong(), []int{1, 2, 3}, nil},
	} {
		if got := heap.Reach(x.h, x.roots...); !slices.Equal(got, x.want) {
			t.Errorf("Reach(%s, %v) = %v; want %v", shown(x.h), x.roots, got, x.want)
		}
	}
}

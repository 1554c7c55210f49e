package heap_test

import (
	"fmt"
	"maps"
	"slices"
	"testing"

	"portolan/api"
	"portolan/heap"
	"portolan/sample"
)

// place is where a field is: of which object, among its references or its numbers, and which one.
type place struct {
	obj int
	ref bool
	n   int
}

// model is what a heap has, apart from the package: how many objects, and what is in each field.
type model struct {
	objs   int
	fields map[place]int
}

// modelOf is the model of a heap.
func modelOf(h api.Heap) model {
	m := model{len(h.Objs), map[place]int{}}
	for i, o := range h.Objs {
		for n, x := range o.Refs {
			m.fields[place{i + 1, true, n}] = x
		}
		for n, x := range o.Ints {
			m.fields[place{i + 1, false, n}] = x
		}
	}
	return m
}

// same tells whether two heaps have the same.
func same(a, b api.Heap) bool {
	return modelOf(a).is(modelOf(b))
}

// is tells whether two models are the same.
func (m model) is(o model) bool {
	return m.objs == o.objs && maps.Equal(m.fields, o.fields)
}

// names tells whether an object has that name.
func (m model) names(obj int) bool {
	return 0 < obj && obj < m.objs+1
}

// right tells whether there is no ninth field of a kind, and all references lead somewhere, or are 0.
func (m model) right() bool {
	for f, x := range m.fields {
		if f.n > 7 || f.ref && x != 0 && !m.names(x) {
			return false
		}
	}
	return true
}

// load is what is at a place.
func (m model) load(f place) (int, api.Errno) {
	x, ok := m.fields[f]
	switch {
	case !m.right():
		return 0, 1
	case f.obj == 0:
		return 0, 14
	case !m.names(f.obj):
		return 0, 1
	case !ok:
		return 0, 15
	}
	return x, 0
}

// store is the model in which x is at a place.
func (m model) store(f place, x int) (model, api.Errno) {
	_, e := m.load(f)
	if f.ref && x != 0 && !m.names(x) && (e == 0 || e == 15) {
		e = 1
	}
	if e == 0 {
		m.fields = maps.Clone(m.fields)
		m.fields[f] = x
	}
	return m, e
}

// alloc is the model with one more object, and its name.
func (m model) alloc(refs, ints int) (model, int, api.Errno) {
	if !m.right() || min(refs, ints) < 0 || max(refs, ints) > 8 {
		return m, 0, 1
	}
	m.objs++
	m.fields = maps.Clone(m.fields)
	for n := range refs {
		m.fields[place{m.objs, true, n}] = 0
	}
	for n := range ints {
		m.fields[place{m.objs, false, n}] = 0
	}
	return m, m.objs, 0
}

// reach is the names that are reached: as long as one more is, all fields are gone through again.
func (m model) reach(roots []int) []int {
	var l []int
	if !m.right() {
		return l
	}
	for obj := range m.objs + 1 {
		if obj > 0 && slices.Contains(roots, obj) {
			l = append(l, obj)
		}
	}
	for count := -1; count < len(l); {
		count = len(l)
		for f, x := range m.fields {
			if f.ref && x != 0 && slices.Contains(l, f.obj) && !slices.Contains(l, x) {
				l = append(l, x)
			}
		}
	}
	slices.Sort(l)
	return l
}

// shown is the beginning of what is told of a fault.
func shown(x any) string {
	s := fmt.Sprint(x)
	return s[:min(len(s), 1500)]
}

// small is all heaps of up to two objects, each of at most two references, of which some lead nowhere, and none or two numbers.
func small() []api.Heap {
	var objs []api.Obj
	for _, ints := range [][]int{nil, {3, 1}} {
		objs = append(objs, api.Obj{Ints: ints})
		for a := -1; a <= 3; a++ {
			objs = append(objs, api.Obj{Refs: []int{a}, Ints: ints})
			for b := -1; b <= 3; b++ {
				objs = append(objs, api.Obj{Refs: []int{a, b}, Ints: ints})
			}
		}
	}
	all := []api.Heap{{}}
	for _, o := range objs {
		all = append(all, api.Heap{Objs: []api.Obj{o}})
		for _, p := range objs {
			all = append(all, api.Heap{Objs: []api.Obj{o, p}})
		}
	}
	return all
}

// faulty is heaps of one fault each: at each place of a right one.
func faulty(h api.Heap) []api.Heap {
	var all []api.Heap
	fault := func(obj int, change func(o *api.Obj)) {
		x := sample.CopiedHeap(h)
		change(&x.Objs[obj])
		all = append(all, x)
	}
	for i, o := range h.Objs {
		for n := range o.Refs {
			fault(i, func(o *api.Obj) { o.Refs[n] = -1 })
			fault(i, func(o *api.Obj) { o.Refs[n] = len(h.Objs) + 1 })
		}
		fault(i, func(o *api.Obj) { o.Refs = make([]int, 9) })
		fault(i, func(o *api.Obj) { o.Ints = make([]int, 9) })
	}
	return all
}

// heaps is heaps of all kinds.
func heaps() []api.Heap {
	all := append(small(), sample.Heaps()...)
	for i, h := range sample.Heaps()[:60] {
		l := faulty(h)
		all = append(all, l[:min(len(l), 8+i/6)]...)
	}
	return all
}

// P9.1: of Right, a fault at each place of a heap.
func TestRightEach(t *testing.T) {
	for _, h := range heaps() {
		if want := modelOf(h).right(); heap.Right(h) != want {
			t.Errorf("Right(%s) isn't %t", shown(h), want)
		}
	}
	for _, h := range sample.Heaps() {
		if !heap.Right(h) {
			t.Errorf("Right(%s) is false", shown(h))
		}
		for _, x := range faulty(h) {
			if heap.Right(x) {
				t.Errorf("Right(%s) is true", shown(x))
			}
		}
	}
}

// about is numbers at the ends of the rising ones below n, and beyond; and one between.
func about(n int) []int {
	l := []int{-1, 0, 1, n / 2, n - 1, n, n + 1}
	slices.Sort(l)
	return slices.Compact(l)
}

// P9.1: of Load and Ref, against the model.
func TestModelFields(t *testing.T) {
	for _, h := range heaps() {
		m := modelOf(h)
		for obj := -1; obj <= m.objs+1; obj++ {
			for n := -1; n <= 9; n++ {
				want, wantE := m.load(place{obj, false, n})
				if x, e := heap.Load(h, obj, n); x != want || e != wantE {
					t.Errorf("Load(%s, %d, %d) = %d, %d; want %d, %d", shown(h), obj, n, x, e, want, wantE)
				}
				want, wantE = m.load(place{obj, true, n})
				if x, e := heap.Ref(h, obj, n); x != want || e != wantE {
					t.Errorf("Ref(%s, %d, %d) = %d, %d; want %d, %d", shown(h), obj, n, x, e, want, wantE)
				}
			}
		}
	}
}

// P9.1, P9.2: of Alloc, Store and Link, against the model; heaps that are right stay right.
func TestModelChanges(t *testing.T) {
	for _, h := range heaps() {
		m := modelOf(h)
		changed := func(got api.Heap, e api.Errno, want model, wantE api.Errno) {
			if e != wantE || !modelOf(got).is(want) || heap.Right(got) != m.right() {
				t.Errorf("%s becomes %s, %d; want %s, %d", shown(h), shown(got), e, shown(want), wantE)
			}
		}
		for _, obj := range about(m.objs) {
			for _, n := range []int{-1, 0, 1, 2, 7, 8} {
				got, e := heap.Store(h, obj, n, 1000)
				want, wantE := m.store(place{obj, false, n}, 1000)
				changed(got, e, want, wantE)
				for _, to := range about(m.objs) {
					got, e := heap.Link(h, obj, n, to)
					want, wantE := m.store(place{obj, true, n}, to)
					changed(got, e, want, wantE)
				}
			}
		}
		for _, size := range [][2]int{{0, 0}, {8, 1}, {2, 8}, {9, 0}, {0, 9}, {-1, 3}, {3, -1}} {
			got, id, e := heap.Alloc(h, size[0], size[1])
			want, wantID, wantE := m.alloc(size[0], size[1])
			changed(got, e, want, wantE)
			if id != wantID {
				t.Errorf("of %s the new name is %d; want %d", shown(h), id, wantID)
			}
		}
	}
}

// P9.1: of Reach, each object alone, and some more, against the model.
func TestModelReach(t *testing.T) {
	for _, h := range heaps() {
		m := modelOf(h)
		var all []int
		for obj := m.objs + 1; obj >= -1; obj-- {
			all = append(all, obj)
		}
		roots := [][]int{nil, all, about(m.objs), {m.objs, 2}, {m.objs / 2, 1, 1}}
		for _, obj := range all {
			roots = append(roots, []int{obj})
		}
		for _, l := range roots {
			if got, want := heap.Reach(h, l...), m.reach(l); !slices.Equal(got, want) {
				t.Errorf("Reach(%s, %v) = %v; want %v", shown(h), l, got, want)
			}
		}
	}
}

// P9.2: what was stored, and linked, into all fields, one after another, is all there, and what was there before stays in the heaps before.
func TestStored(t *testing.T) {
	for _, h := range sample.Heaps() {
		m := modelOf(h)
		line, models := []api.Heap{h}, []model{m}
		for i, o := range h.Objs {
			for n := range o.Ints {
				m, _ = m.store(place{i + 1, false, n}, 1000*i+n)
				x, _ := heap.Store(line[len(line)-1], i+1, n, 1000*i+n)
				line, models = append(line, x), append(models, m)
			}
			for n := range o.Refs {
				to := (3*i + 5*n) % (len(h.Objs) + 1)
				m, _ = m.store(place{i + 1, true, n}, to)
				x, _ := heap.Link(line[len(line)-1], i+1, n, to)
				line, models = append(line, x), append(models, m)
			}
			m, _, _ = m.alloc(i%9, len(o.Ints))
			x, _, _ := heap.Alloc(line[len(line)-1], i%9, len(o.Ints))
			line, models = append(line, x), append(models, m)
		}
		for i, x := range line {
			if !modelOf(x).is(models[i]) || !heap.Right(x) {
				t.Fatalf("behind %d steps %s became %s; want %s", i, shown(h), shown(x), shown(models[i]))
			}
		}
	}
}

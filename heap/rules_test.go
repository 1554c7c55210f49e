package heap_test

import (
	"reflect"
	"slices"
	"testing"

	"portolan/api"
	"portolan/heap"
	"portolan/sample"
)

// answers is what all calls answer of a heap.
type answers struct {
	right   bool
	heaps   []api.Heap
	numbers []int
	errors  []api.Errno
	reached [][]int
}

// ask makes each call of a heap, with such numbers.
func ask(h api.Heap, numbers []int) answers {
	a := answers{right: heap.Right(h)}
	changed := func(h api.Heap, e api.Errno) {
		a.heaps, a.errors = append(a.heaps, h), append(a.errors, e)
	}
	told := func(n int, e api.Errno) {
		a.numbers, a.errors = append(a.numbers, n), append(a.errors, e)
	}
	for _, obj := range numbers {
		a.reached = append(a.reached, heap.Reach(h, obj))
		for _, n := range numbers {
			x, id, e := heap.Alloc(h, obj, n)
			changed(x, e)
			told(id, e)
			told(heap.Load(h, obj, n))
			told(heap.Ref(h, obj, n))
			for _, value := range numbers {
				changed(heap.Store(h, obj, n, value))
				changed(heap.Link(h, obj, n, value))
			}
		}
	}
	a.reached = append(a.reached, heap.Reach(h, numbers...), heap.Reach(h))
	return a
}

// same tells whether answers are alike.
func (a answers) same(b answers) bool {
	return a.right == b.right && slices.EqualFunc(a.heaps, b.heaps, same) && slices.Equal(a.numbers, b.numbers) &&
		slices.Equal(a.errors, b.errors) && slices.EqualFunc(a.reached, b.reached, slices.Equal)
}

// copied is answers of their own memory.
func (a answers) copied() answers {
	a.heaps, a.numbers = slices.Clone(a.heaps), slices.Clone(a.numbers)
	a.errors, a.reached = slices.Clone(a.errors), slices.Clone(a.reached)
	for i := range a.heaps {
		a.heaps[i] = sample.CopiedHeap(a.heaps[i])
	}
	for i := range a.reached {
		a.reached[i] = slices.Clone(a.reached[i])
	}
	return a
}

// few is heaps for the rules.
func few() []api.Heap {
	return append(sample.Heaps()[:40], three(), wrong())
}

// fewNumbers is numbers for the rules.
func fewNumbers() []int {
	return []int{2, 0, 1, -1, 3, 8, 9}
}

// P9.1, and rules 5 and 6 of P1: what is handed in stays as it was, its spare room, too, and what stands there is not read.
func TestStays(t *testing.T) {
	for _, h := range few() {
		want := ask(h, fewNumbers())
		x, numbers := sample.RoomyHeap(h), append(fewNumbers(), 77)
		before := sample.WholeHeap(x)
		if got := ask(x, numbers[:len(numbers)-1]); !got.same(want) {
			t.Errorf("%s answers %s; want %s", shown(h), shown(got), shown(want))
		}
		if !reflect.DeepEqual(sample.WholeHeap(x), before) {
			t.Errorf("%s became %s", shown(before), shown(sample.WholeHeap(x)))
		}
		if !slices.Equal(numbers, append(fewNumbers(), 77)) {
			t.Errorf("numbers became %v", numbers)
		}
	}
}

// P9.1, and rule 5 of P1: what was answered stays as it was, also where calls go on with it.
func TestAnswersStay(t *testing.T) {
	for _, h := range few() {
		first := ask(h, fewNumbers())
		want := first.copied()
		if !ask(h, fewNumbers()).same(want) {
			t.Errorf("%s answers something else when it is asked again", shown(h))
		}
		for _, x := range first.heaps[:60] {
			ask(x, []int{1, 2, 8})
		}
		if !first.same(want) {
			t.Errorf("answers of %s became %s; want %s", shown(h), shown(first), shown(want))
		}
	}
}

// P9.1, and rule 5 of P1: two heaps that were made of one don't hang on one another.
func TestForks(t *testing.T) {
	base, _, _ := heap.Alloc(api.Heap{}, 2, 2)
	base, _, _ = heap.Alloc(base, 2, 2)
	a, _, _ := heap.Alloc(base, 1, 0)
	b, _, _ := heap.Alloc(base, 0, 1)
	c, _ := heap.Store(base, 2, 1, 7)
	d, _ := heap.Store(base, 2, 1, 8)
	e, _ := heap.Link(base, 2, 1, 1)
	f, _ := heap.Link(base, 2, 1, 2)
	zero := []int{0, 0}
	empty := api.Obj{Refs: zero, Ints: zero}
	for i, x := range []struct {
		got  api.Heap
		want []api.Obj
	}{
		{base, []api.Obj{empty, empty}},
		{a, []api.Obj{empty, empty, {Refs: []int{0}}}},
		{b, []api.Obj{empty, empty, {Ints: []int{0}}}},
		{c, []api.Obj{empty, {Refs: zero, Ints: []int{0, 7}}}},
		{d, []api.Obj{empty, {Refs: zero, Ints: []int{0, 8}}}},
		{e, []api.Obj{empty, {Refs: []int{0, 1}, Ints: zero}}},
		{f, []api.Obj{empty, {Refs: []int{0, 2}, Ints: zero}}},
	} {
		if !same(x.got, api.Heap{Objs: x.want}) {
			t.Errorf("the heap %d is %v; want %v", i, x.got, x.want)
		}
	}
}

// P9.2: objects that are handed in with one list for several of them have each their own fields.
func TestOneList(t *testing.T) {
	l := []int{1, 2}
	h := api.Heap{Objs: []api.Obj{{Refs: l, Ints: l}, {Refs: l, Ints: l}}}
	want := sample.CopiedHeap(h)
	want.Objs[0].Ints[1] = 9
	got, e := heap.Store(h, 1, 1, 9)
	heaped(t, "Store", got, want, e, api.OK)
	want = sample.CopiedHeap(h)
	want.Objs[1].Refs[0] = 0
	got, e = heap.Link(h, 2, 0, 0)
	heaped(t, "Link", got, want, e, api.OK)
}

// P9.1, and rule 5 of P1: the names that are reached are nobody else's memory.
func TestReachMemory(t *testing.T) {
	h, roots := three(), []int{3, 2}
	first := heap.Reach(h, roots...)
	second := heap.Reach(h, roots...)
	clear(second[:cap(second)])
	if !slices.Equal(first, []int{1, 2, 3}) || !slices.Equal(roots, []int{3, 2}) || !same(h, three()) {
		t.Errorf("names became %v, roots %v, the heap %v", first, roots, h)
	}
}

// P9.1, and rule 4 of P1: lists without anything may be nil or empty.
func TestEmpty(t *testing.T) {
	bare := api.Heap{Objs: []api.Obj{{}, {Ints: []int{5}}, {Refs: []int{2}}}}
	full := api.Heap{Objs: []api.Obj{{Refs: []int{}, Ints: []int{}}, {Refs: []int{}, Ints: []int{5}}, {Refs: []int{2}, Ints: []int{}}}}
	if !ask(bare, fewNumbers()).same(ask(full, fewNumbers())) {
		t.Error("lists without anything aren't alike")
	}
	if !ask(api.Heap{}, fewNumbers()).same(ask(api.Heap{Objs: []api.Obj{}}, fewNumbers())) {
		t.Error("heaps without anything aren't alike")
	}
}

// P9.1, and rule 1 of P1: calls end and don't panic at whatever there is.
func TestAnything(t *testing.T) {
	numbers := append(far(), 0, 1, 2, 3)
	for _, h := range few()[:12] {
		ask(h, numbers)
	}
	ask(three(), numbers)
	for _, n := range numbers {
		for _, m := range numbers {
			ask(api.Heap{Objs: []api.Obj{{Refs: []int{n, m}, Ints: []int{m}}, {Refs: []int{m}}, {}}}, []int{n, 1})
		}
	}
}

// P9.1, and rule 1 of P1: calls end, however many objects, fields and roots there are.
func TestMany(t *testing.T) {
	const count = 1 << 20
	h := api.Heap{Objs: make([]api.Obj, count)}
	roots := make([]int, count)
	for i := range h.Objs {
		h.Objs[i].Refs = []int{0, i, (i + 2) % (count + 1)}
		roots[i] = count - i
	}
	for _, l := range [][]int{{1}, {count}, roots} {
		got := heap.Reach(h, l...)
		if len(got) != count || got[0] != 1 || got[count-1] != count || !slices.IsSorted(got) {
			t.Errorf("%d objects of %d are reached", len(got), count)
		}
	}
	x, id, e := heap.Alloc(h, 1, 1)
	if id != count+1 || e != api.OK || len(x.Objs) != count+1 {
		t.Errorf("the name of one more is %d, %d", id, e)
	}
	x, e = heap.Link(x, id, 0, id)
	if l := heap.Reach(x, id); e != api.OK || !slices.Equal(l, []int{id}) {
		t.Errorf("one more leads to %v, %d", l, e)
	}
	great := api.Heap{Objs: []api.Obj{{Refs: make([]int, count), Ints: make([]int, count)}}}
	if _, e := heap.Load(great, 1, 0); e != api.ErrArg || heap.Right(great) || len(heap.Reach(great, 1)) > 0 {
		t.Errorf("an object of %d fields is right, %d", count, e)
	}
}

package run

import (
	"portolan/api"
	"portolan/heap"
)

// value is what x sets its D to, where the variables have that.
func (c *course) value(vars []api.Val, x api.Ins) (api.Val, api.Errno) {
	// Of an instruction that has a D there is a variable 0, which stands in the place of an A or B that is no part.
	a, b := vars[x.A], vars[x.B]
	switch x.Op {
	case api.OpAlloc:
		return c.alloc(x)
	case api.OpLoadInt:
		return c.load(a.Obj, x.N)
	case api.OpLoadDer:
		return c.load(a.Obj, a.At)
	case api.OpLoadRef:
		obj, e := heap.Ref(c.heap, a.Obj, x.N)
		return api.Val{Obj: obj}, e
	case api.OpDerive:
		return derive(a, x.N)
	case api.OpShift:
		return api.Val{Obj: a.Obj, At: a.At + x.N}, api.OK
	case api.OpMove:
		return a, api.OK
	case api.OpNull:
		return api.Val{}, api.OK
	}
	return api.Val{N: number(a, b, x)}, api.OK
}

// number is the number that x makes of what A and B have.
func number(a, b api.Val, x api.Ins) int {
	switch x.Op {
	case api.OpConst:
		return x.N
	case api.OpAdd:
		return a.N + b.N
	case api.OpSub:
		return a.N - b.N
	case api.OpMul:
		return a.N * b.N
	case api.OpLess:
		return truth(a.N < b.N)
	case api.OpIsNull:
		return truth(isNone(a))
	case api.OpSame:
		return truth(a.Obj == b.Obj)
	}
	return 0
}

// truth is the number that tells whether something holds.
func truth(holds bool) int {
	if holds {
		return 1
	}
	return 0
}

// isNone tells whether a Ref has no object.
func isNone(ref api.Val) bool {
	return ref.Obj == 0
}

// derive is the place of the number n of what a Ref has, whether there is such a number or not.
func derive(ref api.Val, n int) (api.Val, api.Errno) {
	if isNone(ref) {
		return api.Val{}, api.ErrNull
	}
	return api.Val{Obj: ref.Obj, At: n}, api.OK
}

// alloc is a new object, such as x asks for.
func (c *course) alloc(x api.Ins) (api.Val, api.Errno) {
	h, obj, e := heap.Alloc(c.heap, x.N, x.M)
	c.heap = h
	return api.Val{Obj: obj}, e
}

// load is the number n of an object.
func (c *course) load(obj, n int) (api.Val, api.Errno) {
	value, e := heap.Load(c.heap, obj, n)
	return api.Val{N: value}, e
}

// store puts what x's B has where x says. Beside an error layer 9 answers the heap as it was.
func (c *course) store(vars []api.Val, x api.Ins) api.Errno {
	var e api.Errno
	a, b := vars[x.A], vars[x.B]
	switch x.Op {
	case api.OpStoreInt:
		c.heap, e = heap.Store(c.heap, a.Obj, x.N, b.N)
	case api.OpStoreDer:
		c.heap, e = heap.Store(c.heap, a.Obj, a.At, b.N)
	case api.OpStoreRef:
		c.heap, e = heap.Link(c.heap, a.Obj, x.N, b.Obj)
	}
	return e
}

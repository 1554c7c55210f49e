package sample

import (
	"slices"

	"portolan/api"
)

// pacer writes the blocks of a paced function, one behind the other. At each place all variables are set, and all Ders fresh.
type pacer struct {
	writer
	ints []int // what any instruction may set
	push int   // how far arguments push variables on
	done []api.Block
	code []api.Ins // of the block under way
}

// newPacer is of the writer's function.
func newPacer(w writer) *pacer {
	p := &pacer{writer: w, push: max(w.f.Params-1, 0)}
	own := func(v int) bool { return v == depth || one <= v-p.push && v-p.push < paces }
	p.ints = slices.DeleteFunc(Of(w.f, api.Int), own)
	return p
}

// own is the variable of one of the Ints that each function has.
func (p *pacer) own(v int) int {
	if v == depth {
		return v
	}
	return v + p.push
}

// all is the blocks of the function n.
func (p *pacer) all(n int) []api.Block {
	p.open(n)
	if n > 0 {
		p.put(api.Ins{Op: api.OpLess, D: p.own(test), A: depth, B: p.own(one)})
		p.maybe(func() { p.leave() })
	}
	p.some(p.to(4, 12), 0)
	p.leave()
	return p.done
}

// open sets all variables that aren't arguments.
func (p *pacer) open(n int) {
	if n == 0 {
		deep := p.to(2, 9)
		if p.to(0, 9) == 0 {
			deep = p.to(50, 70)
		}
		p.put(api.Ins{Op: api.OpConst, D: depth, N: deep})
	}
	for v, kind := range p.f.Kinds {
		switch {
		case v < p.f.Params || v == depth:
		case v == p.own(one):
			p.put(api.Ins{Op: api.OpConst, D: v, N: 1})
		case kind == api.Int:
			p.put(api.Ins{Op: api.OpConst, D: v, N: p.to(-3, 9)})
		case kind == api.Ref:
			p.put(p.object(v))
		}
	}
	for v := range p.f.Params {
		if p.f.Kinds[v] == api.Ref {
			p.full(v)
		}
	}
	for _, v := range Of(p.f, api.Der) {
		p.put(p.derive(v))
	}
}

// object sets v to a new object.
func (p *pacer) object(v int) api.Ins {
	return api.Ins{Op: api.OpAlloc, D: v, N: p.to(2, 3), M: p.to(3, 4)}
}

// derive sets the Der v anew.
func (p *pacer) derive(v int) api.Ins {
	return api.Ins{Op: api.OpDerive, D: v, A: p.f.Base[v], N: p.to(0, 2)}
}

// put lays instructions, in a block more, if there isn't room for them.
func (p *pacer) put(l ...api.Ins) {
	for _, x := range l {
		if len(p.code) == api.MaxCode-1 {
			p.end(api.Ins{Op: api.OpJump, N: len(p.done) + 1})
		}
		p.code = append(p.code, x)
	}
}

// end ends the block under way.
func (p *pacer) end(x api.Ins) {
	p.done = append(p.done, api.Block{Code: append(p.code, x)})
	p.code = nil
}

// leave ends the block under way with an answer.
func (p *pacer) leave() {
	p.end(api.Ins{Op: api.OpReturn, A: p.one(Of(p.f, p.f.Result))})
}

// maybe lays what is done where the test isn't 0; it may end the block under way.
func (p *pacer) maybe(lay func()) {
	from := len(p.done)
	p.end(api.Ins{Op: api.OpBranch, A: p.own(test), N: from + 1})
	lay()
	if len(p.code) > 0 {
		p.end(api.Ins{Op: api.OpJump, N: len(p.done) + 1})
	}
	l := p.done[from].Code
	l[len(l)-1].M = len(p.done)
}

// round lays what is done some times.
func (p *pacer) round(count int, lay func()) {
	p.put(api.Ins{Op: api.OpConst, D: count, N: p.to(1, 9)})
	head := len(p.done) + 1
	p.end(api.Ins{Op: api.OpJump, N: head})
	lay()
	p.put(api.Ins{Op: api.OpSub, D: count, A: count, B: p.own(one)})
	p.end(api.Ins{Op: api.OpBranch, A: count, N: head, M: len(p.done) + 1})
}

// some lays so many things, in so many loops.
func (p *pacer) some(count, loops int) {
	for range count {
		what := p.to(0, 11)
		switch {
		case len(p.done) > api.MaxBlocks/2 || what > 4:
			p.plainly()
		case what == 0 && loops < 2:
			p.round(p.own(outer+loops), func() { p.some(p.to(2, 6), loops+1) })
		case what == 1:
			p.ask()
			p.maybe(func() { p.some(p.to(1, 3), loops) })
		case what == 2 && p.to(0, loops) == 0 && len(p.p.Funcs) > 1:
			p.callOn()
		case what == 3:
			p.follow()
		default:
			p.put(api.Ins{Op: api.OpPrint, A: p.asked('i')})
		}
	}
}

// ask sets the test.
func (p *pacer) ask() {
	ops := []int{api.OpLess, api.OpIsNull, api.OpSame}
	x := p.plain(ops[p.to(0, len(ops)-1)])
	x.D = p.own(test)
	p.put(x)
}

// full has the Ref v an object.
func (p *pacer) full(v int) {
	p.put(api.Ins{Op: api.OpIsNull, D: p.own(test), A: v})
	p.maybe(func() { p.put(p.object(v)) })
}

// follow goes to what a reference leads to, or to a new object.
func (p *pacer) follow() {
	x := p.plain(api.OpLoadRef)
	x.N = p.field()
	p.put(x)
	p.full(x.D)
	p.again(x.D)
}

// again sets all Ders anew whose base v was set.
func (p *pacer) again(v int) {
	for der, base := range p.f.Base {
		if base == v {
			p.put(p.derive(der))
		}
	}
}

// field is a field that most objects have.
func (p *pacer) field() int {
	if p.to(0, 30) == 0 {
		return p.to(2, api.MaxFields-1)
	}
	return p.to(0, 1)
}

// callOn calls a function that isn't the first one.
func (p *pacer) callOn() {
	x := p.call(p.to(1, len(p.p.Funcs)-1))
	if p.p.Funcs[x.N].Result == api.Int {
		x.D = p.one(p.ints)
	}
	x.Args[0] = p.own(test)
	p.put(api.Ins{Op: api.OpSub, D: p.own(test), A: depth, B: p.own(one)}, x)
	if p.p.Funcs[x.N].Result == api.Ref {
		p.full(x.D)
		p.again(x.D)
	}
}

// plainly lays an instruction of any operation that ends no block and calls nothing.
func (p *pacer) plainly() {
	x := p.ins()
	switch x.Op {
	case api.OpCall:
		x = api.Ins{Op: api.OpPrint, A: p.asked('i')}
	case api.OpNull, api.OpAlloc:
		x = p.object(x.D)
		if p.to(0, 30) == 0 {
			x = api.Ins{Op: api.OpNull, D: x.D}
		}
	case api.OpLoadInt, api.OpStoreInt, api.OpLoadRef, api.OpStoreRef:
		x.N = p.field()
	case api.OpShift:
		if x.A == x.D || p.to(0, 3) > 0 {
			x = p.derive(x.D)
		}
	}
	p.lay(x)
}

// lay puts x, which sets what it may set, and what has to follow it.
func (p *pacer) lay(x api.Ins) {
	switch Row(x.Op)[0] {
	case 'i':
		x.D = p.one(p.ints)
	case '-':
		if x.Op == api.OpMove && p.f.Kinds[x.D] == api.Int {
			x.D = p.one(p.ints)
		}
	}
	p.put(x)
	if x.Op == api.OpMove || Row(x.Op)[0] == 'r' {
		p.again(x.D)
	}
}

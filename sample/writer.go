package sample

import (
	"slices"

	"portolan/api"
)

// Row is the kinds that an operation asks of D, A and B, as layer 8's chapter has them: i, r or d, and - where nothing is asked, or what hangs on more than the operation.
func Row(op int) string {
	switch op {
	case api.OpConst:
		return "i--"
	case api.OpAdd, api.OpSub, api.OpMul, api.OpLess:
		return "iii"
	case api.OpNull, api.OpAlloc:
		return "r--"
	case api.OpIsNull, api.OpLoadInt:
		return "ir-"
	case api.OpSame:
		return "irr"
	case api.OpStoreInt:
		return "-ri"
	case api.OpLoadRef:
		return "rr-"
	case api.OpStoreRef:
		return "-rr"
	case api.OpDerive:
		return "dr-"
	case api.OpShift:
		return "dd-"
	case api.OpLoadDer:
		return "id-"
	case api.OpStoreDer:
		return "-di"
	case api.OpPrint, api.OpBranch:
		return "-i-"
	}
	return "---"
}

// writer writes the blocks of a program's function. Refs that are to be set are taken of sets.
type writer struct {
	*dice
	p    api.Prog
	f    api.Func
	sets []int
}

// blocks is blocks that lead there. The first one begins by setting variables.
func (w writer) blocks(l Ends, most int) []api.Block {
	var blocks []api.Block
	for b, to := range l {
		var code []api.Ins
		if b == 0 {
			code = w.opening()
		}
		for range min(w.to(0, most-1), api.MaxCode-1-len(code)) {
			code = append(code, w.ins())
		}
		x := last(to)
		switch x.Op {
		case api.OpBranch:
			x.A = w.asked('i')
		case api.OpReturn:
			x.A = w.one(Of(w.f, w.f.Result))
		}
		blocks = append(blocks, api.Block{Code: append(code, x)})
	}
	return blocks
}

// opening sets most of the variables: Ints and Refs, then Ders.
func (w writer) opening() []api.Ins {
	var l []api.Ins
	add := func(x api.Ins) {
		if w.to(0, 30) > 0 {
			l = append(l, x)
		}
	}
	for v, kind := range w.f.Kinds {
		switch kind {
		case api.Int:
			add(api.Ins{Op: api.OpConst, D: v, N: w.to(-3, 3)})
		case api.Ref:
			add(api.Ins{Op: api.OpAlloc, D: v, N: w.to(0, 3), M: w.to(1, 4)})
		}
	}
	for _, v := range Of(w.f, api.Der) {
		add(api.Ins{Op: api.OpDerive, D: v, A: w.f.Base[v], N: w.to(0, 2)})
	}
	return l
}

// ins is an instruction that ends no block, of any operation that there are variables for; those that have a Der come twice as often as others.
func (w writer) ins() api.Ins {
	ders := len(Of(w.f, api.Der)) > 0
	op := w.to(api.OpConst, api.OpPrint+4)
	if op > api.OpPrint {
		op += api.OpDerive - api.OpPrint - 1
	}
	switch op {
	case api.OpMove:
		if w.to(0, 1) == 0 {
			return api.Ins{Op: op, D: w.asked('i'), A: w.asked('i')}
		}
		return api.Ins{Op: op, D: w.one(w.sets), A: w.asked('r')}
	case api.OpCall:
		return w.call(w.to(0, len(w.p.Funcs)-1))
	case api.OpDerive, api.OpShift, api.OpLoadDer, api.OpStoreDer:
		if !ders {
			return api.Ins{Op: api.OpPrint, A: w.asked('i')}
		}
		return w.derived(op)
	default:
		return w.plain(op)
	}
}

// asked is a variable of a letter's kind; there is one.
func (w writer) asked(letter byte) int {
	return w.one(Of(w.f, slices.Index([]byte("ird"), letter)))
}

// plain is an instruction of an operation, as its row asks.
func (w writer) plain(op int) api.Ins {
	x, row := api.Ins{Op: op}, Row(op)
	switch row[0] {
	case 'r':
		x.D = w.one(w.sets)
	case 'i', 'd':
		x.D = w.asked(row[0])
	}
	if row[1] != '-' {
		x.A = w.asked(row[1])
	}
	if row[2] != '-' {
		x.B = w.asked(row[2])
	}
	switch op {
	case api.OpConst:
		x.N = w.to(-3, 3)
	case api.OpAlloc:
		x.N, x.M = w.to(0, 3), w.to(0, 3)
	case api.OpLoadInt, api.OpStoreInt, api.OpLoadRef, api.OpStoreRef:
		x.N = w.to(0, 2)
	}
	return x
}

// derived is an instruction of an operation that has a Der.
func (w writer) derived(op int) api.Ins {
	x := w.plain(op)
	switch op {
	case api.OpDerive:
		x.A, x.N = w.f.Base[x.D], w.to(0, 2)
	case api.OpShift:
		other := func(v int) bool { return w.f.Base[v] != w.f.Base[x.D] }
		x.A, x.N = w.one(slices.DeleteFunc(Of(w.f, api.Der), other)), w.to(-2, 2)
	}
	return x
}

// call is a call of the program's function n.
func (w writer) call(n int) api.Ins {
	g := w.p.Funcs[n]
	x := api.Ins{Op: api.OpCall, N: n, D: w.asked('i')}
	if g.Result == api.Ref {
		x.D = w.one(w.sets)
	}
	for _, kind := range g.Kinds[:g.Params] {
		x.Args = append(x.Args, w.one(Of(w.f, kind)))
	}
	return x
}

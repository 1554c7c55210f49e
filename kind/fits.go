package kind

import "portolan/api"

// noBase stands in the place of a base, of what is no Der.
const noBase = -1

// row is the kinds of an operation's D, A and B: i, r or d; of another one of them the row asks nothing.
type row [3]byte

// rows has the row of each operation of a program. What hangs on more than the operation is asked by restFits.
var rows = [api.OpReturn + 1]row{
	api.OpConst:    {'i'},
	api.OpAdd:      {'i', 'i', 'i'},
	api.OpSub:      {'i', 'i', 'i'},
	api.OpMul:      {'i', 'i', 'i'},
	api.OpLess:     {'i', 'i', 'i'},
	api.OpNull:     {'r'},
	api.OpIsNull:   {'i', 'r'},
	api.OpSame:     {'i', 'r', 'r'},
	api.OpAlloc:    {'r'},
	api.OpLoadInt:  {'i', 'r'},
	api.OpStoreInt: {'-', 'r', 'i'},
	api.OpLoadRef:  {'r', 'r'},
	api.OpStoreRef: {'-', 'r', 'r'},
	api.OpDerive:   {'d', 'r'},
	api.OpShift:    {'d', 'd'},
	api.OpLoadDer:  {'i', 'd'},
	api.OpStoreDer: {'-', 'd', 'i'},
	api.OpPrint:    {'-', 'i'},
	api.OpBranch:   {'-', 'i'},
}

// isOp tells whether a number is an operation of a program.
func isOp(op int) bool {
	return api.OpConst <= op && op <= api.OpReturn
}

// rowFits tells whether D, A and B of x, whose Op is one, are as its row asks.
func rowFits(f api.Func, x api.Ins) bool {
	letters := rows[x.Op]
	for i, v := range [3]int{x.D, x.A, x.B} {
		if kind, asks := kindOf(letters[i]); asks && !is(f, v, kind) {
			return false
		}
	}
	return true
}

// kindOf is the kind that a letter of a row stands for, if it does.
func kindOf(letter byte) (int, bool) {
	switch letter {
	case 'i':
		return api.Int, true
	case 'r':
		return api.Ref, true
	case 'd':
		return api.Der, true
	}
	return 0, false
}

// restFits tells whether x, in the function f of p, is as the operation asks beside its row.
func restFits(p api.Prog, f api.Func, x api.Ins) bool {
	switch x.Op {
	case api.OpMove:
		both := func(kind int) bool { return is(f, x.D, kind) && is(f, x.A, kind) }
		return both(api.Int) || both(api.Ref)
	case api.OpDerive:
		return base(f, x.D) == x.A
	case api.OpShift:
		return base(f, x.D) == base(f, x.A)
	case api.OpCall:
		return callFits(p, f, x)
	case api.OpReturn:
		return is(f, x.A, f.Result)
	}
	return true
}

// callFits tells whether a call's arguments and D are of the kinds that the called function takes and answers.
func callFits(p api.Prog, f api.Func, x api.Ins) bool {
	if x.N < 0 || x.N >= len(p.Funcs) {
		return false
	}
	g := p.Funcs[x.N]
	for i, v := range x.Args {
		if !there(g, i) || !is(f, v, g.Kinds[i]) {
			return false
		}
	}
	return is(f, x.D, g.Result)
}

// there tells whether f has a variable v.
func there(f api.Func, v int) bool {
	return 0 <= v && v < len(f.Kinds)
}

// is tells whether f has a variable v of that kind.
func is(f api.Func, v, kind int) bool {
	return there(f, v) && f.Kinds[v] == kind
}

// base is what f says is v's.
func base(f api.Func, v int) int {
	if v < 0 || v >= len(f.Base) {
		return noBase
	}
	return f.Base[v]
}

// dersOf is the Ders whose base is v: nothing but a Der has one.
func dersOf(f api.Func, v int) []int {
	var l []int
	for d, b := range f.Base {
		if b == v {
			l = append(l, d)
		}
	}
	return l
}

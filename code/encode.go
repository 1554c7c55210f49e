package code

import (
	"portolan/api"
	"portolan/varint"
)

// funcMay tells whether f has bytes, if its counts may be.
func funcMay(f api.Func) bool {
	if len(f.Base) != len(f.Kinds) || f.Params < 0 || f.Result < 0 {
		return false
	}
	for i, kind := range f.Kinds {
		if !isKind(kind) || !baseMay(kind, f.Base[i]) {
			return false
		}
	}
	for _, b := range f.Blocks {
		for _, x := range b.Code {
			if !insMay(x) {
				return false
			}
		}
	}
	return true
}

// baseMay tells whether a variable of that kind may have that base.
func baseMay(kind, base int) bool {
	if kind == api.Der {
		return base >= 0
	}
	return base == noBase
}

// insMay tells whether x has bytes: rest is x without its parts, of which nothing may be left but the Op.
func insMay(x api.Ins) bool {
	if !isOp(x.Op) {
		return false
	}
	rest := x
	for _, part := range Parts(x.Op) {
		switch part {
		case 'n':
			rest.N = 0
		case 'L':
			if !allPut(x.Args) {
				return false
			}
			rest.Args = nil
		default:
			n := field(&rest, part)
			if *n < 0 {
				return false
			}
			*n = 0
		}
	}
	return sameIns(rest, api.Ins{Op: x.Op})
}

// allPut tells whether all numbers have bytes.
func allPut(l []int) bool {
	for _, n := range l {
		if n < 0 {
			return false
		}
	}
	return true
}

// writer puts a program's bytes one behind the other.
type writer struct {
	b []byte
}

// put lays numbers. It has each list's bytes made apart, since varint.Put would copy all those before it.
func (w *writer) put(l ...int) {
	w.b = append(w.b, varint.List(l...)...)
}

// putSigned lays a signed number.
func (w *writer) putSigned(n int) {
	w.b = append(w.b, varint.PutSigned(nil, n)...)
}

// prog lays a program.
func (w *writer) prog(p api.Prog) {
	w.put(len(p.Funcs))
	for _, f := range p.Funcs {
		w.function(f)
	}
}

// function lays a function.
func (w *writer) function(f api.Func) {
	w.put(len(f.Kinds))
	for i, kind := range f.Kinds {
		w.put(kind)
		if kind == api.Der {
			w.put(f.Base[i])
		}
	}
	w.put(f.Params, f.Result, len(f.Blocks))
	for _, b := range f.Blocks {
		w.put(len(b.Code))
		for _, x := range b.Code {
			w.ins(x)
		}
	}
}

// ins lays an instruction.
func (w *writer) ins(x api.Ins) {
	w.put(x.Op)
	for _, part := range Parts(x.Op) {
		switch part {
		case 'n':
			w.putSigned(x.N)
		case 'L':
			w.put(len(x.Args))
			w.put(x.Args...)
		default:
			w.put(*field(&x, part))
		}
	}
}

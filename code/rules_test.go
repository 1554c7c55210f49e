package code_test

import (
	"bytes"
	"math"
	"slices"
	"testing"

	"portolan/api"
	"portolan/code"
)

// changes is copies of a program, each of which is another one in one place.
func changes(p api.Prog) []api.Prog {
	l := []api.Prog{of(append(slices.Clone(p.Funcs), api.Func{})...), of(p.Funcs[:len(p.Funcs)-1]...)}
	add := func(change func(f *api.Func)) {
		for i := range p.Funcs {
			q := copied(p)
			change(&q.Funcs[i])
			l = append(l, q)
		}
	}
	for _, n := range []int{1, -1, 1 << 32} {
		add(func(f *api.Func) { f.Params += n })
		add(func(f *api.Func) { f.Result += n })
		add(func(f *api.Func) { f.Kinds = append(f.Kinds, n) })
		add(func(f *api.Func) { f.Base = append(f.Base, n) })
	}
	add(func(f *api.Func) { f.Blocks = append(f.Blocks, api.Block{}) })
	for i := range p.Funcs[0].Kinds {
		add(func(f *api.Func) { f.Kinds[i]++ })
		add(func(f *api.Func) { f.Base[i]++ })
		add(func(f *api.Func) { f.Kinds = slices.Delete(f.Kinds, i, i+1) })
		add(func(f *api.Func) { f.Base = slices.Delete(f.Base, i, i+1) })
	}
	for i, b := range p.Funcs[0].Blocks {
		add(func(f *api.Func) { f.Blocks = slices.Delete(f.Blocks, i, i+1) })
		add(func(f *api.Func) { f.Blocks[i].Code = append(f.Blocks[i].Code, api.Ins{}) })
		for j := range b.Code {
			l = append(l, changedIns(p, i, j)...)
		}
	}
	return l
}

// changedIns is copies of a program, each with another instruction in one place of its first function.
func changedIns(p api.Prog, block, at int) []api.Prog {
	var l []api.Prog
	for _, change := range []func(x *api.Ins){
		func(x *api.Ins) { x.Op++ },
		func(x *api.Ins) { x.D++ },
		func(x *api.Ins) { x.A-- },
		func(x *api.Ins) { x.B ^= 1 << 40 },
		func(x *api.Ins) { x.N = ^x.N },
		func(x *api.Ins) { x.M ^= math.MinInt },
		func(x *api.Ins) { x.Args = append(x.Args, 0) },
	} {
		q := copied(p)
		change(&q.Funcs[0].Blocks[block].Code[at])
		l = append(l, q)
	}
	for i := range p.Funcs[0].Blocks[block].Code[at].Args {
		q := copied(p)
		q.Funcs[0].Blocks[block].Code[at].Args[i]++
		l = append(l, q)
	}
	return l
}

// some is a program with two functions alike, in which each field stands that may be told apart.
func some() api.Prog {
	f := api.Func{Kinds: []int{0, 1, 2}, Base: []int{-1, -1, 1}, Params: 2, Result: 1, Blocks: []api.Block{
		{Code: []api.Ins{{Op: 19, D: 1, N: 1, Args: []int{1, 2, 3}}, {Op: 22, A: 1, N: 2, M: 3}}},
		{Code: []api.Ins{{Op: 3, D: 1, A: 2, B: 3}}},
	}}
	return copied(of(f, f))
}

// same asks whether two programs are the same, both ways.
func same(t *testing.T, p, q api.Prog, want bool) {
	t.Helper()
	if code.Same(p, q) != want || code.Same(q, p) != want {
		t.Errorf("Same(%s, %s) isn't %t", shown(p), shown(q), want)
	}
}

// P3.1: of Same, whatever the programs are.
func TestSame(t *testing.T) {
	p := some()
	same(t, p, p, true)
	same(t, p, copied(p), true)
	for _, q := range changes(p) {
		same(t, p, q, false)
		same(t, q, copied(q), true)
	}
	for _, q := range slices.Concat(wrong(), wrongParts(), counted(9, 49, 41, 41, 5), programs()) {
		same(t, q, copied(q), true)
		same(t, q, p, false)
	}
}

// P3.1, and rule 4 of P1: lists without anything are the same, and encoded alike.
func TestEmpty(t *testing.T) {
	same(t, api.Prog{}, api.Prog{Funcs: []api.Func{}}, true)
	same(t, api.Prog{}, of(api.Func{}), false)
	full := api.Func{Kinds: []int{}, Base: []int{}, Blocks: []api.Block{}}
	same(t, of(api.Func{}), of(full), true)
	same(t, with(), of(api.Func{Blocks: []api.Block{{Code: []api.Ins{}}}}), true)
	same(t, of(api.Func{}), with(), false)
	same(t, with(api.Ins{Op: 19}), with(api.Ins{Op: 19, Args: []int{}}), true)
	encoded(t, of(full), []byte{1, 0, 0, 0, 0}, api.OK)
	encoded(t, of(api.Func{Blocks: []api.Block{{Code: []api.Ins{}}}}), []byte{1, 0, 0, 0, 1, 0}, api.OK)
	encoded(t, with(api.Ins{Op: 20, A: 3, Args: []int{}}), []byte{1, 0, 0, 0, 1, 1, 20, 3}, api.OK)
	refused(t, api.Prog{Funcs: []api.Func{}}, api.ErrLimit)
}

// roomy is a program whose lists all have spare room, with something in it.
func roomy(p api.Prog) api.Prog {
	q := copied(p)
	q.Funcs = append(q.Funcs, api.Func{Params: 77})[:len(q.Funcs)]
	for i := range q.Funcs {
		f := &q.Funcs[i]
		f.Kinds, f.Base = append(f.Kinds, 77)[:len(f.Kinds)], append(f.Base, 77)[:len(f.Base)]
		f.Blocks = append(f.Blocks, api.Block{Code: []api.Ins{{Op: 77}}})[:len(f.Blocks)]
		for j := range f.Blocks {
			b := &f.Blocks[j]
			b.Code = append(b.Code, api.Ins{Op: 77})[:len(b.Code)]
			for k := range b.Code {
				x := &b.Code[k]
				x.Args = append(x.Args, 77)[:len(x.Args)]
			}
		}
	}
	return q
}

// untouched tells whether what roomy put into the spare room is there yet.
func untouched(p api.Prog) bool {
	if p.Funcs[:len(p.Funcs)+1][len(p.Funcs)].Params != 77 {
		return false
	}
	for _, f := range p.Funcs {
		if f.Kinds[:len(f.Kinds)+1][len(f.Kinds)] != 77 || f.Base[:len(f.Base)+1][len(f.Base)] != 77 {
			return false
		}
		if f.Blocks[:len(f.Blocks)+1][len(f.Blocks)].Code[0].Op != 77 {
			return false
		}
		for _, b := range f.Blocks {
			if b.Code[:len(b.Code)+1][len(b.Code)].Op != 77 {
				return false
			}
			for _, x := range b.Code {
				if x.Args[:len(x.Args)+1][len(x.Args)] != 77 {
					return false
				}
			}
		}
	}
	return true
}

// P3.1, and rule 5 of P1: programs that are handed in stay as they were, also where they are refused.
func TestProgramStays(t *testing.T) {
	for _, p := range slices.Concat(programs(), wrong(), wrongParts(), counted(9, 49, 41, 41, 5)) {
		q, r := roomy(p), roomy(p)
		code.Encode(q)
		code.Same(q, r)
		code.Same(q, some())
		if !plainly(p, q) || !plainly(p, r) || !untouched(q) || !untouched(r) {
			t.Errorf("%s became %s", shown(p), shown(q))
		}
	}
}

// P3.1, and rule 5 of P1: bytes that are handed in stay as they were, and no program hangs on them.
func TestBytesStay(t *testing.T) {
	for _, p := range programs() {
		b := laid(tokens(p))
		room := append(slices.Clone(b), 77, 77, 77)
		q, _ := code.Decode(room[:len(b)])
		code.Decode(room[:len(b)/2])
		code.Decode(room)
		if !bytes.Equal(room, append(b, 77, 77, 77)) {
			t.Errorf("%s are changed", shown(b))
		}
		clear(room)
		if !plainly(p, q) {
			t.Errorf("%s became %s", shown(p), shown(q))
		}
	}
}

// P3.1, and rules 5 and 6 of P1: bytes that were answered aren't changed later, whatever is done with others.
func TestNewBytes(t *testing.T) {
	for _, p := range programs() {
		want := laid(tokens(p))
		first, _ := code.Encode(p)
		second, _ := code.Encode(p)
		whole := second[:cap(second)]
		for i := range whole {
			whole[i] = 99
		}
		encoded(t, some(), laid(tokens(some())), api.OK)
		encoded(t, p, want, api.OK)
		if !bytes.Equal(first, want) {
			t.Errorf("%s became %s", shown(want), shown(first))
		}
	}
}

// grow puts something behind each list of a program, and asks whether another list of it is changed by that.
func grow(p api.Prog) bool {
	want := copied(p)
	_ = append(p.Funcs, api.Func{Params: 99})
	for _, f := range p.Funcs {
		_, _ = append(f.Kinds, 99), append(f.Base, 99)
		_ = append(f.Blocks, api.Block{Code: []api.Ins{{Op: 99}}})
		for _, b := range f.Blocks {
			_ = append(b.Code, api.Ins{Op: 99})
			for _, x := range b.Code {
				_ = append(x.Args, 99)
			}
		}
	}
	return plainly(p, want)
}

// spoil writes into each list of a program.
func spoil(p api.Prog) {
	for i := range p.Funcs {
		f := &p.Funcs[i]
		for j := range f.Kinds {
			f.Kinds[j], f.Base[j] = 99, 98
		}
		for j := range f.Blocks {
			for k := range f.Blocks[j].Code {
				x := &f.Blocks[j].Code[k]
				for m := range x.Args {
					x.Args[m] = 97
				}
				x.Op = 96
			}
			f.Blocks[j] = api.Block{}
		}
		p.Funcs[i] = api.Func{Params: 95}
	}
}

// P3.1, and rules 5 and 6 of P1: a program that was answered isn't changed later; no two lists share anything.
func TestNewProgram(t *testing.T) {
	for _, p := range programs() {
		b := laid(tokens(p))
		first, _ := code.Decode(b)
		second, _ := code.Decode(b)
		if !grow(first) {
			t.Errorf("lists of %s share memory", shown(p))
		}
		spoil(second)
		if !plainly(first, p) {
			t.Errorf("%s became %s", shown(p), shown(first))
		}
		decoded(t, b, p, api.OK)
	}
}

// P1, rule 1: calls end at whatever is great.
func TestGreat(t *testing.T) {
	refused(t, of(make([]api.Func, 1<<16)...), api.ErrLimit)
	refused(t, with(api.Ins{Op: 19, Args: make([]int, 1<<20)}), api.ErrLimit)
	refused(t, with(api.Ins{Op: 2, Args: make([]int, 1<<20)}), api.ErrArg)
	for _, x := range []byte{0, 1, 8, 127, 128, 255} {
		if _, e := code.Decode(bytes.Repeat([]byte{x}, 1<<20)); e == api.OK {
			t.Errorf("many bytes of %d are a program", x)
		}
	}
}

package code_test

import (
	"bytes"
	"fmt"
	"math"
	"reflect"
	"slices"
	"testing"

	"portolan/api"
	"portolan/code"
)

// table has each operation's parts, and one instruction of it with its bytes.
var table = []struct {
	parts string
	x     api.Ins
	b     []byte
}{
	{"Dn", api.Ins{Op: 1, D: 1, N: -3}, []byte{1, 1, 5}},
	{"DA", api.Ins{Op: 2, D: 1, A: 2}, []byte{2, 1, 2}},
	{"DAB", api.Ins{Op: 3, D: 1, A: 2, B: 3}, []byte{3, 1, 2, 3}},
	{"DAB", api.Ins{Op: 4, D: 1, A: 2, B: 3}, []byte{4, 1, 2, 3}},
	{"DAB", api.Ins{Op: 5, D: 1, A: 2, B: 3}, []byte{5, 1, 2, 3}},
	{"DAB", api.Ins{Op: 6, D: 1, A: 2, B: 3}, []byte{6, 1, 2, 3}},
	{"D", api.Ins{Op: 7, D: 1}, []byte{7, 1}},
	{"DA", api.Ins{Op: 8, D: 1, A: 2}, []byte{8, 1, 2}},
	{"DAB", api.Ins{Op: 9, D: 1, A: 2, B: 3}, []byte{9, 1, 2, 3}},
	{"DNM", api.Ins{Op: 10, D: 1, N: 4, M: 5}, []byte{10, 1, 4, 5}},
	{"DAN", api.Ins{Op: 11, D: 1, A: 2, N: 4}, []byte{11, 1, 2, 4}},
	{"ANB", api.Ins{Op: 12, A: 2, B: 3, N: 4}, []byte{12, 2, 4, 3}},
	{"DAN", api.Ins{Op: 13, D: 1, A: 2, N: 4}, []byte{13, 1, 2, 4}},
	{"ANB", api.Ins{Op: 14, A: 2, B: 3, N: 4}, []byte{14, 2, 4, 3}},
	{"DAN", api.Ins{Op: 15, D: 1, A: 2, N: 4}, []byte{15, 1, 2, 4}},
	{"DAn", api.Ins{Op: 16, D: 1, A: 2, N: -8}, []byte{16, 1, 2, 15}},
	{"DA", api.Ins{Op: 17, D: 1, A: 2}, []byte{17, 1, 2}},
	{"AB", api.Ins{Op: 18, A: 2, B: 3}, []byte{18, 2, 3}},
	{"DNL", api.Ins{Op: 19, D: 1, N: 4, Args: []int{6, 300, 8, 9}}, []byte{19, 1, 4, 4, 6, 0xac, 2, 8, 9}},
	{"A", api.Ins{Op: 20, A: 2}, []byte{20, 2}},
	{"N", api.Ins{Op: 21, N: 4}, []byte{21, 4}},
	{"ANM", api.Ins{Op: 22, A: 2, N: 300, M: 5}, []byte{22, 2, 0xac, 2, 5}},
	{"A", api.Ins{Op: 23, A: 2}, []byte{23, 2}},
}

// shown is the beginning of what is told of a fault.
func shown(x any) string {
	s := fmt.Sprint(x)
	return s[:min(len(s), 300)]
}

// encoded asks for bytes of a program, or an error without any.
func encoded(t *testing.T, p api.Prog, want []byte, e api.Errno) {
	t.Helper()
	if b, got := code.Encode(p); got != e || !bytes.Equal(b, want) {
		t.Errorf("%s is encoded as %s, %d; want %d", shown(p), shown(b), got, e)
	}
}

// refused asks for an error of a program.
func refused(t *testing.T, p api.Prog, e api.Errno) {
	t.Helper()
	encoded(t, p, nil, e)
}

// decoded asks for a program of bytes, or an error beside the one without anything.
func decoded(t *testing.T, b []byte, want api.Prog, e api.Errno) {
	t.Helper()
	if p, got := code.Decode(b); got != e || !plainly(p, want) {
		t.Errorf("%s is decoded as %s, %d; want %d", shown(b), shown(p), got, e)
	}
}

// plainly tells, apart from the package's own Same, whether two programs are the same.
func plainly(p, q api.Prog) bool {
	return reflect.DeepEqual(filled(p), filled(q))
}

// filled has in the place of each list that is nil an empty one.
func filled(p api.Prog) api.Prog {
	q := copied(p)
	q.Funcs = append([]api.Func{}, q.Funcs...)
	for i := range q.Funcs {
		f := &q.Funcs[i]
		f.Kinds, f.Base, f.Blocks = append([]int{}, f.Kinds...), append([]int{}, f.Base...), append([]api.Block{}, f.Blocks...)
		for j := range f.Blocks {
			b := &f.Blocks[j]
			b.Code = append([]api.Ins{}, b.Code...)
			for k := range b.Code {
				b.Code[k].Args = append([]int{}, b.Code[k].Args...)
			}
		}
	}
	return q
}

// P3.1: of Parts.
func TestParts(t *testing.T) {
	for _, x := range table {
		if got := code.Parts(x.x.Op); got != x.parts {
			t.Errorf("Parts(%d) = %q", x.x.Op, got)
		}
	}
	for _, op := range []int{math.MinInt, -23, -1, 0, 24, 25, 26, 100, 1 << 32, 1<<32 + 1, math.MaxInt} {
		if got := code.Parts(op); got != "" {
			t.Errorf("Parts(%d) = %q", op, got)
		}
	}
}

// P3.1, P3.2: of each operation, byte by byte.
func TestOperations(t *testing.T) {
	if len(table) != 23 {
		t.Fatal("an operation is without a row")
	}
	for _, x := range table {
		b := slices.Concat([]byte{1, 0, 0, 0, 1, 1}, x.b)
		encoded(t, with(x.x), b, api.OK)
		decoded(t, b, with(x.x), api.OK)
	}
}

// P3.1, P3.2: whole programs, byte by byte.
func TestPrograms(t *testing.T) {
	for _, x := range []struct {
		p api.Prog
		b []byte
	}{
		{of(api.Func{}), []byte{1, 0, 0, 0, 0}},
		{of(api.Func{Params: 3, Result: 1}), []byte{1, 0, 3, 1, 0}},
		{of(api.Func{Params: 300, Result: 200}), []byte{1, 0, 0xac, 2, 200, 1, 0}},
		{of(api.Func{}, api.Func{Result: 1}), []byte{2, 0, 0, 0, 0, 0, 0, 1, 0}},
		{vars([]int{0, 1, 2, 2, 0}, []int{-1, -1, 1, 300, -1}), []byte{1, 5, 0, 1, 2, 1, 2, 0xac, 2, 0, 0, 0, 0}},
		{with(), []byte{1, 0, 0, 0, 1, 0}},
		{of(api.Func{Blocks: make([]api.Block, 3)}), []byte{1, 0, 0, 0, 3, 0, 0, 0}},
		{with(api.Ins{Op: 19}), []byte{1, 0, 0, 0, 1, 1, 19, 0, 0, 0}},
		{
			of(api.Func{Kinds: []int{0}, Base: []int{-1}, Blocks: []api.Block{{Code: []api.Ins{{Op: 1, N: 5}, {Op: 23}}}}}),
			[]byte{1, 1, 0, 0, 0, 1, 2, 1, 0, 10, 23, 0},
		},
	} {
		encoded(t, x.p, x.b, api.OK)
		decoded(t, x.b, x.p, api.OK)
	}
}

// counted has programs that have just one count that may be named.
func counted(funcs, variables, blocks, instructions, args int) []api.Prog {
	bases := slices.Repeat([]int{-1}, variables)
	code := make([]api.Ins, instructions)
	for i := range code {
		code[i].Op = 21
	}
	return []api.Prog{
		of(make([]api.Func, funcs)...),
		vars(make([]int, variables), bases),
		of(api.Func{Blocks: make([]api.Block, blocks)}),
		with(code...),
		with(api.Ins{Op: 19, Args: make([]int, args)}),
	}
}

// P3.1: just so many are taken, and one more is refused, in whichever function it stands.
func TestCounts(t *testing.T) {
	for _, p := range slices.Concat(counted(1, 0, 0, 0, 0), counted(1, 1, 1, 1, 1), counted(8, 48, 40, 40, 4)) {
		b := laid(tokens(p))
		encoded(t, p, b, api.OK)
		decoded(t, b, p, api.OK)
	}
	refused(t, api.Prog{}, api.ErrLimit)
	refused(t, of([]api.Func{}...), api.ErrLimit)
	for _, p := range slices.Concat(counted(9, 49, 41, 41, 5), counted(5000, 5000, 5000, 5000, 5000)) {
		refused(t, p, api.ErrLimit)
		decoded(t, laid(tokens(p)), api.Prog{}, api.ErrLimit)
		if len(p.Funcs) == 1 {
			refused(t, of(api.Func{}, api.Func{}, p.Funcs[0]), api.ErrLimit)
			refused(t, of(api.Func{}, p.Funcs[0], api.Func{}), api.ErrLimit)
		}
	}
	late := of(api.Func{Blocks: []api.Block{{}, {Code: []api.Ins{{Op: 20}, {Op: 19, Args: make([]int, 5)}, {Op: 20}}}, {}}})
	refused(t, late, api.ErrLimit)
	refused(t, of(api.Func{Blocks: []api.Block{{}, {Code: make([]api.Ins, 41)}, {}}}), api.ErrLimit)
}

// wrong is programs whose counts may be, and that have no bytes for all that.
func wrong() []api.Prog {
	l := []api.Prog{
		vars([]int{0}, nil), vars(nil, []int{-1}), vars([]int{0, 0}, []int{-1}), vars([]int{0}, []int{-1, -1}),
		vars([]int{0}, slices.Repeat([]int{-1}, 49)),
		of(api.Func{Params: -1}), of(api.Func{Params: math.MinInt}),
		of(api.Func{Result: -1}), of(api.Func{Result: math.MinInt}),
	}
	for _, kind := range []int{math.MinInt, -1, 3, 4, 1 << 32, math.MaxInt} {
		l = append(l, vars([]int{kind}, []int{-1}), vars([]int{0, 1, kind}, []int{-1, -1, 0}))
	}
	for _, base := range []int{math.MinInt, -2, 0, 1, math.MaxInt} {
		l = append(l, vars([]int{0}, []int{base}), vars([]int{2, 1}, []int{1, base}))
	}
	l = append(l, vars([]int{2}, []int{-1}), vars([]int{1, 2}, []int{-1, -2}), vars([]int{2}, []int{math.MinInt}))
	for _, op := range []int{math.MinInt, -23, -1, 0, 24, 25, 26, 1 << 32, 1<<32 + 1, math.MaxInt} {
		l = append(l, with(api.Ins{Op: op}), with(api.Ins{Op: op, Args: make([]int, 9)}))
	}
	return l
}

// numbers is the fields of an instruction that have a number, by the letters of their parts.
func numbers(x *api.Ins) map[string]*int {
	return map[string]*int{"D": &x.D, "A": &x.A, "B": &x.B, "N": &x.N, "M": &x.M}
}

// wrongParts is instructions of each operation of which one field has what it may not.
func wrongParts() []api.Prog {
	var l []api.Prog
	for _, row := range table {
		for letter := range numbers(&api.Ins{}) {
			for _, n := range []int{math.MinInt, -1, 1, math.MaxInt} {
				part, signed := bytes.Contains([]byte(row.parts), []byte(letter)), letter == "N" && bytes.Contains([]byte(row.parts), []byte("n"))
				if signed || part && n > 0 {
					continue
				}
				x := row.x
				*numbers(&x)[letter] = n
				l = append(l, with(x))
			}
		}
		for _, args := range [][]int{{0}, {1, 2}, {-1}, {0, 0, 0, 0, 0}, make([]int, 1000)} {
			if row.x.Op != 19 {
				x := row.x
				x.Args = args
				l = append(l, with(x))
			}
		}
	}
	for _, args := range [][]int{{-1}, {0, -1}, {5, 6, 7, -8}, {math.MinInt, 1}} {
		l = append(l, with(api.Ins{Op: 19, Args: args}))
	}
	return l
}

// P3.1: what Encode refuses by ErrArg, in the first function, block and instruction as in the last one.
func TestWrong(t *testing.T) {
	for _, p := range slices.Concat(wrong(), wrongParts()) {
		f := p.Funcs[0]
		refused(t, p, api.ErrArg)
		refused(t, of(api.Func{}, f), api.ErrArg)
		refused(t, of(f, api.Func{}), api.ErrArg)
		if len(f.Blocks) > 0 {
			f.Blocks = []api.Block{{}, {Code: []api.Ins{{Op: 7}, f.Blocks[0].Code[0], {Op: 23}}}, {}}
			refused(t, of(f), api.ErrArg)
		}
	}
}

// P3.1: a signed number may be any, all others any from 0 on.
func TestAnyNumber(t *testing.T) {
	for _, n := range []int{math.MinInt, -1 << 31, -1, 0, 1, 1 << 31, math.MaxInt} {
		for _, op := range []int{1, 16} {
			p := with(api.Ins{Op: op, N: n})
			encoded(t, p, laid(tokens(p)), api.OK)
			decoded(t, laid(tokens(p)), p, api.OK)
		}
	}
	top := math.MaxInt
	p := of(api.Func{Kinds: []int{2}, Base: []int{top}, Params: top, Result: top, Blocks: []api.Block{{Code: []api.Ins{
		{Op: 3, D: top, A: top, B: top}, {Op: 10, D: top, N: top, M: top}, {Op: 19, D: top, N: top, Args: []int{top, top, top, top}},
	}}}})
	encoded(t, p, laid(tokens(p)), api.OK)
	decoded(t, laid(tokens(p)), p, api.OK)
}

// P3.1, and rule 2 of P1: ErrLimit comes ahead of ErrArg, wherever the two stand.
func TestLimitFirst(t *testing.T) {
	for _, bad := range slices.Concat(wrong(), wrongParts()) {
		for _, great := range counted(9, 49, 41, 41, 5) {
			refused(t, of(slices.Concat(bad.Funcs, great.Funcs)...), api.ErrLimit)
			refused(t, of(slices.Concat(great.Funcs, bad.Funcs)...), api.ErrLimit)
		}
	}
	refused(t, vars(make([]int, 49), nil), api.ErrLimit)
	refused(t, with(api.Ins{Op: 19, D: -1, Args: []int{-1, -1, -1, -1, -1}}), api.ErrLimit)
	refused(t, with(api.Ins{Op: 99}, api.Ins{Op: 19, Args: make([]int, 5)}), api.ErrLimit)
	refused(t, with(make([]api.Ins, 41)...), api.ErrLimit)
}

// P3.1, P3.2: of many programs, against the model, there and back.
func TestThereAndBack(t *testing.T) {
	for _, p := range programs() {
		b := laid(tokens(p))
		encoded(t, p, b, api.OK)
		decoded(t, b, p, api.OK)
		if q, e := code.Decode(b); e != api.OK || !code.Same(p, q) {
			t.Errorf("%s is decoded to another program: %s, %d", shown(p), shown(q), e)
		}
		decoded(t, append(slices.Clone(b), 0), api.Prog{}, api.ErrTail)
		decoded(t, append(slices.Clone(b), 128), api.Prog{}, api.ErrTail)
		decoded(t, slices.Concat(b, b), api.Prog{}, api.ErrTail)
	}
}

// P3.1: bytes that end within a program.
func TestShort(t *testing.T) {
	for _, p := range programs() {
		b := laid(tokens(p))
		for n := range min(len(b), 400) {
			decoded(t, b[:n], api.Prog{}, api.ErrShort)
			// Of a number of one byte, that byte with its highest bit is a beginning of another one.
			if b[n] < 128 && (n == 0 || b[n-1] < 128) {
				decoded(t, append(slices.Clone(b[:n]), b[n]|128), api.Prog{}, api.ErrShort)
			}
		}
	}
}

// P3.1, and rule 2 of P1: of faults the one farthest left is told, whatever stands behind it.
func TestFaults(t *testing.T) {
	for _, p := range programs()[:60] {
		l := tokens(p)
		for i, x := range l[:min(len(l), 60)] {
			head, rest := laid(l[:i]), laid(l[i+1:])
			for _, f := range faults(x.role) {
				decoded(t, slices.Concat(head, f.b), api.Prog{}, f.e)
				decoded(t, slices.Concat(head, f.b, rest), api.Prog{}, f.e)
				decoded(t, slices.Concat(head, f.b, rest, []byte{0}), api.Prog{}, f.e)
				for _, g := range []byte{0, 9, 25, 49, 128, 255} {
					decoded(t, slices.Concat(head, f.b, bytes.Repeat([]byte{g}, 12)), api.Prog{}, f.e)
				}
			}
		}
	}
}

// P3.2: whatever is decoded has just those bytes; P3.1: nothing stands beside an error.
func TestBackAndThere(t *testing.T) {
	d := &dice{7}
	taken := 0
	for _, p := range programs()[3:] {
		b := laid(tokens(p))
		for range 300 {
			c := slices.Clone(b)
			for range 1 + d.to(2) {
				c[d.to(len(c))] = byte(d.to(256) >> d.to(8))
			}
			q, e := code.Decode(c)
			if e != api.OK {
				if !reflect.DeepEqual(q, api.Prog{}) {
					t.Errorf("beside %d stands %s", e, shown(q))
				}
				continue
			}
			taken++
			if got, e := code.Encode(q); e != api.OK || !bytes.Equal(got, c) || !bytes.Equal(laid(tokens(q)), c) {
				t.Errorf("%s is decoded to what is encoded as %s, %d", shown(c), shown(got), e)
			}
		}
	}
	if taken < 1000 {
		t.Errorf("only %d of the samples are programs", taken)
	}
}

// P3.1: all short bytes of a few values, behind a function's beginning too.
func TestAllShort(t *testing.T) {
	values := []byte{0, 1, 2, 3, 8, 9, 19, 24, 128}
	all := [][]byte{nil}
	for from, length := 0, 0; length < 5; length++ {
		end := len(all)
		for _, b := range all[from:end] {
			for _, x := range values {
				all = append(all, append(slices.Clone(b), x))
			}
		}
		from = end
	}
	for _, b := range all {
		for _, head := range [][]byte{nil, {1, 0, 0, 0, 1, 1}} {
			c := slices.Concat(head, b)
			if q, e := code.Decode(c); e == api.OK && !bytes.Equal(laid(tokens(q)), c) {
				t.Errorf("%v is decoded as %v", c, q)
			}
		}
	}
}

package scan_test

import (
	"math"
	"slices"
	"testing"

	"portolan/api"
	"portolan/scan"
)

// reg is a register.
func reg(n int) api.Loc { return api.Loc{Kind: api.LocReg, N: n} }

// slot is a slot.
func slot(n int) api.Loc { return api.Loc{Kind: api.LocSlot, N: n} }

// one is a variable's span.
func one(v, from, to int) api.Span { return api.Span{Var: v, From: from, To: to} }

// call is one that is kept across a call.
func call(v, from, to int) api.Span { return api.Span{Var: v, From: from, To: to, Call: true} }

// many is n spans from 0 to the point to, or, of fall, one point less far each one.
func many(n, to, fall int) []api.Span {
	l := make([]api.Span, n)
	for i := range l {
		l[i] = one(i, 0, to-fall*i)
	}
	return l
}

// filled is n locations of a kind, the first of which has the number from.
func filled(kind, from, n int) []api.Loc {
	l := make([]api.Loc, n)
	for i := range l {
		l[i] = api.Loc{Kind: kind, N: from + i}
	}
	return l
}

// asked is spans, of which so many registers are there, and where they are.
type asked struct {
	name  string
	spans []api.Span
	regs  int
	want  []api.Loc
}

// registers is spans that get registers, and those that are taken from one another.
func registers() []asked {
	return []asked{
		{"the example", []api.Span{one(0, 0, 9), one(1, 1, 3)}, 1, []api.Loc{slot(0), reg(0)}},
		{"nothing", nil, 5, nil},
		{"one of one point", []api.Span{one(-3, 0, 0)}, 1, []api.Loc{reg(0)}},
		{"the same two, in two registers", []api.Span{one(0, 0, 9), one(1, 1, 3)}, 2, []api.Loc{reg(0), reg(1)}},
		{"the later one ends later", []api.Span{one(0, 0, 3), one(1, 1, 9)}, 1, []api.Loc{reg(0), slot(0)}},
		{"both end together: the greater variable goes", []api.Span{one(0, 0, 9), one(1, 1, 9)}, 1, []api.Loc{reg(0), slot(0)}},
		{"both end together: the greater variable stands first", []api.Span{one(1, 0, 9), one(0, 1, 9)}, 1, []api.Loc{slot(0), reg(0)}},
		{"variables below 0", []api.Span{one(-1, 0, 9), one(-2, 1, 9), one(-3, 2, 9)}, 2, []api.Loc{slot(0), reg(1), reg(0)}},
		{"one that ends where another begins", []api.Span{one(0, 0, 3), one(1, 3, 4)}, 1, []api.Loc{reg(0), slot(0)}},
		{"one that ends ahead of that", []api.Span{one(0, 0, 3), one(1, 4, 4)}, 1, []api.Loc{reg(0), reg(0)}},
		{"the free one of the least number", []api.Span{one(0, 0, 3), one(1, 0, 2), one(2, 0, 9), one(3, 3, 4), one(4, 4, 5)}, 3, []api.Loc{reg(0), reg(1), reg(2), reg(1), reg(0)}},
		{"of three the one in the middle ends last", []api.Span{one(0, 0, 7), one(1, 0, 9), one(2, 0, 8), one(3, 1, 5)}, 3, []api.Loc{reg(0), slot(0), reg(2), reg(1)}},
		{"of two that end last the greater variable goes", []api.Span{one(5, 0, 9), one(7, 0, 9), one(6, 1, 9), one(4, 2, 9)}, 3, []api.Loc{reg(0), slot(0), reg(2), reg(1)}},
		{"one by one they lose it", []api.Span{one(0, 0, 9), one(1, 1, 8), one(2, 2, 7), one(3, 3, 6)}, 1, []api.Loc{slot(0), slot(1), slot(2), reg(0)}},
		{"a register that was taken is free behind its new span", []api.Span{one(0, 0, 9), one(1, 1, 3), one(2, 4, 5)}, 1, []api.Loc{slot(0), reg(0), reg(0)}},
		{"one that lost it ends last, and loses nothing more", []api.Span{one(0, 0, 99), one(1, 1, 9), one(2, 2, 8), one(3, 3, 7)}, 2, []api.Loc{slot(0), slot(1), reg(0), reg(1)}},
		{"without registers", []api.Span{one(0, 0, 3), one(1, 1, 2), one(2, 4, 5)}, 0, []api.Loc{slot(0), slot(1), slot(0)}},
		{"one is free, though another one ends last", []api.Span{one(0, 0, 9), one(1, 0, 1), one(2, 2, 3)}, 2, []api.Loc{reg(0), reg(1), reg(1)}},
	}
}

// slots is spans that go to slots: which ones these are hangs on the order in which they go, and on where they end.
func slots() []asked {
	return []asked{
		{"across a call, of many registers", []api.Span{call(0, 0, 3), call(1, 1, 9), one(2, 2, 3)}, 32, []api.Loc{slot(0), slot(1), reg(0)}},
		{"across a call, one behind the other", []api.Span{call(0, 0, 3), call(1, 3, 9), call(2, 4, 5)}, 1, []api.Loc{slot(0), slot(1), slot(0)}},
		{"a call takes no register from others", []api.Span{one(0, 0, 9), call(1, 1, 3)}, 1, []api.Loc{reg(0), slot(0)}},
		{"nor is one taken for it", []api.Span{call(0, 0, 99), one(1, 1, 9), one(2, 2, 3)}, 1, []api.Loc{slot(0), slot(1), reg(0)}},
		{"one that goes later than it begins meets one that begins later", []api.Span{one(0, 0, 9), call(1, 1, 2), one(2, 3, 4)}, 1, []api.Loc{slot(1), slot(0), reg(0)}},
		{"and one that ends ahead of it", []api.Span{call(0, 0, 1), one(1, 2, 9), one(2, 3, 4)}, 1, []api.Loc{slot(0), slot(0), reg(0)}},
		{"and one that ends where it begins", []api.Span{call(0, 0, 2), one(1, 2, 9), one(2, 3, 4)}, 1, []api.Loc{slot(0), slot(1), reg(0)}},
		{"a slot between others", []api.Span{call(0, 0, 9), call(1, 0, 3), call(2, 0, 9), call(3, 4, 5)}, 2, []api.Loc{slot(0), slot(1), slot(2), slot(1)}},
		{"a slot of several behind one another", []api.Span{call(0, 0, 1), call(1, 2, 3), call(2, 4, 5), call(3, 5, 6)}, 2, []api.Loc{slot(0), slot(0), slot(0), slot(1)}},
		{"what has a register yet is in nobody's way", []api.Span{one(0, 0, 5), call(1, 1, 2), one(2, 1, 6), one(3, 3, 4)}, 2, []api.Loc{reg(0), slot(0), slot(1), reg(1)}},
	}
}

// P16.1: of Scan, answers that are written out.
func TestScan(t *testing.T) {
	for _, x := range slices.Concat(registers(), slots()) {
		if got, e := scan.Scan(x.spans, x.regs); e != api.OK || !slices.Equal(got, x.want) {
			t.Errorf("%s: %v, %v; want %v", x.name, got, e, x.want)
		}
		if scan.Clash(x.spans, x.want) {
			t.Errorf("%s: it clashes", x.name)
		}
	}
}

// P16.1: of Scan, as many registers, and spans, as there may be.
func TestLimits(t *testing.T) {
	for regs := 0; regs <= api.MaxRegs; regs++ {
		want := append(filled(api.LocReg, 0, regs), filled(api.LocSlot, 0, 48-regs)...)
		if got, e := scan.Scan(many(48, 99, 0), regs); e != api.OK || !slices.Equal(got, want) {
			t.Errorf("of %d registers: %v, %v; want %v", regs, got, e, want)
		}
	}
	want := slices.Concat(filled(api.LocSlot, 0, 16), filled(api.LocReg, 16, 16), filled(api.LocReg, 0, 16))
	if got, e := scan.Scan(many(48, 99, 1), 32); e != api.OK || !slices.Equal(got, want) {
		t.Errorf("the first ones end last: %v, %v; want %v", got, e, want)
	}
	for _, regs := range []int{math.MinInt, -1 << 32, -1, 33, 34, 64, 1 << 32, 1<<32 + 2, math.MaxInt} {
		for _, l := range [][]api.Span{nil, many(2, 9, 0), many(49, 9, 0)} {
			if got, e := scan.Scan(l, regs); e != api.ErrArg || len(got) > 0 {
				t.Errorf("of %d registers: %v, %v", regs, got, e)
			}
		}
	}
}

// P16.1: of Right and Scan, what must be, and faults at each place.
func TestRight(t *testing.T) {
	right := [][]api.Span{
		nil, {one(0, 0, 0)}, {one(math.MinInt, 0, 1<<40)}, {one(math.MaxInt, 1<<40, 1<<40)},
		{one(0, 0, 5), one(1, 0, 4)}, {one(9, 0, 5), one(1, 1, 4)}, {one(9, 2, 5), call(math.MaxInt, 2, 2)},
		{one(math.MinInt, 1, 1), one(math.MaxInt, 1, 1)}, many(48, 1<<40, 0),
	}
	for _, l := range right {
		judged(t, l, true)
	}
	wrong := [][]api.Span{
		{one(0, -1, 3)}, {one(0, -1, -1)}, {one(0, math.MinInt, math.MaxInt)}, {one(0, 3, 2)}, {one(0, 1, 0)},
		{one(0, 0, 1<<40+1)}, {one(0, 0, math.MaxInt)}, {one(0, 1<<40+1, 1<<40+1)}, {one(0, 1, math.MinInt)},
		{one(1, 0, 0), one(0, 0, 0)}, {one(0, 1, 1), one(1, 0, 1)}, {one(0, 2, 2), one(1, 1, 2)},
		{one(3, 0, 0), one(3, 0, 0)}, {one(3, 0, 0), one(3, 5, 6)}, {one(3, 0, 0), one(4, 0, 0), one(3, 5, 6)},
		{one(math.MaxInt, 1, 1), one(math.MinInt, 1, 1)}, many(49, 9, 0), many(400, 9, 0),
	}
	for _, l := range wrong {
		judged(t, l, false)
	}
	base := make([]api.Span, 48)
	for i := range base {
		base[i] = one(50-i, 2*i, 100+i)
	}
	for i := range base {
		judged(t, base[:i+1], true)
		for _, s := range []api.Span{one(99, -1, 4), one(99, 2*i, 2*i-1), one(99, 2*i, 1<<40+1), one(base[(i+7)%48].Var, 2*i, 2*i), one(99, 2*i+3, 999), one(99, 2*i-3, 999)} {
			l := slices.Clone(base)
			l[i] = s
			judged(t, l, i == 47 && s.From == 2*i+3)
		}
	}
}

// judged asks whether spans are right, and are scanned.
func judged(t *testing.T, l []api.Span, right bool) {
	t.Helper()
	if scan.Right(l) != right {
		t.Errorf("right is %v: %s", !right, shown(l))
	}
	for _, regs := range []int{0, 2, 32} {
		locs, e := scan.Scan(l, regs)
		if right && (e != api.OK || len(locs) != len(l)) || !right && (e != api.ErrArg || len(locs) > 0) {
			t.Errorf("of %d registers: %v, %v: %s", regs, locs, e, shown(l))
		}
	}
}

// P16.1: of Slots.
func TestSlots(t *testing.T) {
	for _, x := range []struct {
		l    []api.Loc
		want int
	}{
		{nil, 0},
		{[]api.Loc{{}}, 0},
		{[]api.Loc{slot(0)}, 1},
		{[]api.Loc{slot(0), slot(0)}, 1},
		{[]api.Loc{reg(9), slot(2), slot(0), {}}, 3},
		{[]api.Loc{slot(2), slot(7), reg(31)}, 8},
		{[]api.Loc{reg(9)}, 0},
		{[]api.Loc{{N: 9}, {Kind: 3, N: 9}, {Kind: -2, N: 9}, {Kind: 1<<32 + 2, N: 9}}, 0},
		{[]api.Loc{slot(-1)}, 0},
		{[]api.Loc{slot(-1), slot(4), slot(math.MinInt)}, 5},
		{[]api.Loc{slot(1<<40 - 1)}, 1 << 40},
		{[]api.Loc{slot(1 << 40)}, 0},
		{[]api.Loc{slot(1 << 40), slot(3), slot(1<<40 + 1), slot(1 << 62), slot(math.MaxInt)}, 4},
	} {
		if got := scan.Slots(x.l); got != x.want {
			t.Errorf("%v need %d; want %d", x.l, got, x.want)
		}
	}
}

// P16.1: of Clash, answers that are written out.
func TestClash(t *testing.T) {
	two := []api.Span{one(0, 0, 3), one(1, 3, 4)}
	apart := []api.Span{one(0, 0, 2), one(1, 3, 4)}
	three := []api.Span{one(0, 0, 9), one(1, 1, 2), one(2, 4, 5)}
	for _, x := range []struct {
		spans []api.Span
		l     []api.Loc
		want  bool
	}{
		{nil, nil, false},
		{two, []api.Loc{reg(1), reg(1)}, true},
		{two, []api.Loc{slot(1), slot(1)}, true},
		{two, []api.Loc{reg(1), slot(1)}, false},
		{two, []api.Loc{reg(1), reg(2)}, false},
		{two, []api.Loc{{}, {}}, false},
		{two, []api.Loc{{N: 5}, {N: 5}}, false},
		{two, []api.Loc{reg(1)}, false},
		{two, nil, false},
		{nil, []api.Loc{reg(1), reg(1)}, false},
		{two[:1], []api.Loc{reg(1), reg(1)}, false},
		{two, []api.Loc{reg(2), reg(1), reg(1)}, false},
		{append(slices.Clone(two), one(2, 0, 9)), []api.Loc{reg(2), reg(1), reg(1)}, true},
		{apart, []api.Loc{reg(1), reg(1)}, false},
		{[]api.Span{apart[1], apart[0]}, []api.Loc{reg(1), reg(1)}, false},
		{[]api.Span{two[1], two[0]}, []api.Loc{reg(1), reg(1)}, true},
		{three, []api.Loc{reg(0), reg(1), reg(0)}, true},
		{three, []api.Loc{reg(0), reg(1), reg(1)}, false},
		{three, []api.Loc{reg(0), reg(0), reg(1)}, true},
		{[]api.Span{one(4, 1, 2), one(4, 2, 3)}, []api.Loc{reg(0), reg(0)}, true},
		{[]api.Span{one(0, 5, 5), one(1, 5, 5)}, []api.Loc{slot(0), slot(0)}, true},
		{[]api.Span{one(0, 5, 4), one(1, 0, 9)}, []api.Loc{slot(0), slot(0)}, false},
		{[]api.Span{one(0, 0, 9), one(1, 3, 2), one(2, 4, 9)}, []api.Loc{slot(0), slot(0), slot(0)}, true},
		{[]api.Span{one(0, math.MinInt, math.MaxInt), one(1, -4, -3)}, []api.Loc{reg(-7), reg(-7)}, true},
		{[]api.Span{one(0, math.MinInt, -1), one(1, 0, math.MaxInt)}, []api.Loc{reg(0), reg(0)}, false},
		{two, []api.Loc{slot(1 << 41), slot(1 << 41)}, true},
	} {
		if got := scan.Clash(x.spans, x.l); got != x.want {
			t.Errorf("%v at %v: %v", x.spans, x.l, got)
		}
	}
}

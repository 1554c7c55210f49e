package par_test

import (
	"math"
	"slices"
	"testing"

	"portolan/api"
	"portolan/par"
)

func reg(n int) api.Loc { return api.Loc{Kind: api.LocReg, N: n} }

func slot(n int) api.Loc { return api.Loc{Kind: api.LocSlot, N: n} }

func move(to, from api.Loc) api.Move { return api.Move{To: to, From: from} }

// moves is moves of registers, by the numbers of To and From in turn; 9 is the spare one's.
func moves(n ...int) []api.Move {
	var l []api.Move
	for i := 0; i < len(n); i += 2 {
		l = append(l, move(reg(n[i]), reg(n[i+1])))
	}
	return l
}

// asked is moves, and what they must be ordered to.
type asked struct {
	name    string
	l, want []api.Move
}

// ways is moves of which none go round.
func ways() []asked {
	return []asked{
		{"nothing", nil, nil},
		{"one", moves(0, 1), moves(0, 1)},
		{"into itself", moves(0, 0), nil},
		{"into themselves", moves(3, 3, 0, 0, 1, 1), nil},
		{"into itself, and asked for by another one", moves(0, 0, 1, 0), moves(1, 0)},
		{"into itself, behind one that asks for it", moves(1, 0, 0, 0), moves(1, 0)},
		{"into itself, between others", moves(1, 0, 3, 3, 2, 4), moves(1, 0, 2, 4)},
		{"no one asks for a To", moves(3, 0, 2, 1, 4, 0), moves(3, 0, 2, 1, 4, 0)},
		{"all of one", moves(3, 0, 2, 0, 4, 0), moves(3, 0, 2, 0, 4, 0)},
		{"a line as it must be", moves(0, 1, 1, 2, 2, 3), moves(0, 1, 1, 2, 2, 3)},
		{"a line that is turned", moves(2, 3, 1, 2, 0, 1), moves(0, 1, 1, 2, 2, 3)},
		{"the first one that may comes next, not the one behind", moves(1, 2, 4, 5, 0, 1, 3, 4), moves(0, 1, 1, 2, 3, 4, 4, 5)},
		{"two ask for one To", moves(0, 1, 2, 0, 3, 0), moves(2, 0, 3, 0, 0, 1)},
		{"and one of them is asked for itself", moves(0, 1, 2, 0, 3, 0, 4, 2), moves(3, 0, 4, 2, 2, 0, 0, 1)},
		{"a line of a register and slots", []api.Move{move(slot(1), slot(0)), move(slot(0), reg(1)), move(reg(0), slot(1))}, []api.Move{move(reg(0), slot(1)), move(slot(1), slot(0)), move(slot(0), reg(1))}},
		{"a register and a slot of one number are two", []api.Move{move(reg(0), slot(0)), move(reg(1), reg(0))}, []api.Move{move(reg(1), reg(0)), move(reg(0), slot(0))}},
		{"a register and its slot", []api.Move{move(reg(0), slot(0)), move(slot(1), reg(1))}, []api.Move{move(reg(0), slot(0)), move(slot(1), reg(1))}},
	}
}

// rounds is moves that go round; 9 is spare.
func rounds() []asked {
	return []asked{
		{"two", moves(0, 1, 1, 0), moves(9, 0, 0, 1, 1, 9)},
		{"two, turned", moves(1, 0, 0, 1), moves(9, 1, 1, 0, 0, 9)},
		{"three", moves(0, 1, 1, 2, 2, 0), moves(9, 0, 0, 1, 1, 2, 2, 9)},
		{"three, against their order", moves(0, 2, 2, 1, 1, 0), moves(9, 0, 0, 2, 2, 1, 1, 9)},
		{"three, the one behind it last", moves(0, 2, 1, 0, 2, 1), moves(9, 0, 0, 2, 2, 1, 1, 9)},
		{"two rounds", moves(0, 1, 1, 0, 2, 3, 3, 2), moves(9, 0, 0, 1, 1, 9, 9, 2, 2, 3, 3, 9)},
		{"two rounds that are mixed", moves(0, 1, 2, 3, 1, 0, 3, 2), moves(9, 0, 0, 1, 1, 9, 9, 2, 2, 3, 3, 9)},
		{"a round, and what asks for it", moves(0, 1, 1, 0, 2, 0), moves(2, 0, 9, 0, 0, 1, 1, 9)},
		{"ahead of it, and a line", moves(3, 2, 2, 0, 0, 1, 1, 0), moves(3, 2, 2, 0, 9, 0, 0, 1, 1, 9)},
		{"a round, and one alone", moves(0, 1, 1, 0, 3, 4), moves(3, 4, 9, 0, 0, 1, 1, 9)},
		{"a round, and one into itself", moves(2, 2, 0, 1, 1, 0), moves(9, 0, 0, 1, 1, 9)},
		{"a round, and one of it into another place", moves(1, 0, 0, 1, 2, 1, 3, 0), moves(2, 1, 3, 0, 9, 1, 1, 0, 0, 9)},
		{"a register and a slot", []api.Move{move(slot(5), reg(5)), move(reg(5), slot(5))}, []api.Move{move(reg(9), slot(5)), move(slot(5), reg(5)), move(reg(5), reg(9))}},
	}
}

// P17.1 and P17.2: of Order, answers that are written out.
func TestOrder(t *testing.T) {
	for _, x := range append(ways(), rounds()...) {
		got, e := par.Order(x.l, reg(9))
		if e != api.OK || !slices.Equal(got, x.want) {
			t.Errorf("%s: %v, %v; want %v", x.name, got, e, x.want)
		}
		promised(t, x.l, got, reg(9))
	}
}

// P17.1: of Order, each spare location, as long as there is none of its own.
func TestSpare(t *testing.T) {
	two := []api.Move{move(reg(31), slot(159)), move(slot(159), reg(31)), move(slot(7), slot(7)), move(slot(4), reg(5))}
	for _, x := range all() {
		got, e := par.Order(two, x)
		if slices.Contains([]api.Loc{reg(31), slot(159), slot(7), slot(4), reg(5)}, x) {
			if e != api.ErrArg || len(got) > 0 {
				t.Errorf("spare is %v: %v, %v", x, got, e)
			}
			continue
		}
		want := []api.Move{move(slot(4), reg(5)), move(x, reg(31)), move(reg(31), slot(159)), move(slot(159), x)}
		if e != api.OK || !slices.Equal(got, want) {
			t.Errorf("spare is %v: %v, %v; want %v", x, got, e, want)
		}
	}
	for _, x := range beyond() {
		for _, l := range [][]api.Move{nil, two, moves(0, 0), moves(0, 1)} {
			if got, e := par.Order(l, x); e != api.ErrArg || len(got) > 0 {
				t.Errorf("spare is %v: %v, %v", x, got, e)
			}
		}
	}
}

// all is each location that may be moved.
func all() []api.Loc {
	var l []api.Loc
	for n := range 32 {
		l = append(l, reg(n))
	}
	for n := range 160 {
		l = append(l, slot(n))
	}
	return l
}

// beyond is locations that may not be moved.
func beyond() []api.Loc {
	l := []api.Loc{{}, {N: 1}, {N: 31}, reg(32), reg(33), reg(100), reg(159), slot(160), slot(161)}
	for _, n := range []int{-1, -2, math.MinInt, math.MaxInt, 1 << 32, 1<<32 + 1} {
		l = append(l, reg(n), slot(n))
	}
	for _, kind := range []int{-1, 3, 4, 1<<32 + 1, 1<<32 + 2, math.MinInt, math.MaxInt} {
		l = append(l, api.Loc{Kind: kind}, api.Loc{Kind: kind, N: 2})
	}
	return l
}

// P17.1: of Right and Order, what may be, and faults at each place.
func TestRight(t *testing.T) {
	for _, x := range append(ways(), rounds()...) {
		judged(t, x.l, reg(9), true)
	}
	var line []api.Move
	for i, x := range all()[1:] {
		line = append(line, move(x, all()[i]))
	}
	judged(t, line[:190], slot(159), true)
	judged(t, line[:50], slot(159), true)
	if !par.Right(line) || !par.Right(append(slices.Clone(line), move(reg(0), slot(159)))) || !par.Right(append(slices.Clone(line), move(reg(0), reg(0)))) {
		t.Error("as many moves as there may be aren't right")
	}
	for i := range 50 {
		for _, x := range beyond() {
			put(t, line[:50], i, move(x, line[i].From))
			put(t, line[:50], i, move(line[i].To, x))
			put(t, line[:50], i, move(x, x))
		}
		for j := range 50 {
			if i != j {
				put(t, line[:50], i, move(line[j].To, line[i].From))
			}
		}
	}
	for _, l := range [][]api.Move{moves(0, 1, 0, 1), moves(0, 0, 0, 0), moves(0, 0, 0, 1), moves(1, 2, 0, 1, 1, 2)} {
		judged(t, l, slot(0), false)
	}
}

// put asks for moves that are right, but for the i-th one.
func put(t *testing.T, l []api.Move, i int, m api.Move) {
	t.Helper()
	l = slices.Clone(l)
	l[i] = m
	judged(t, l, slot(159), false)
}

// judged asks whether moves are right, and are ordered.
func judged(t *testing.T, l []api.Move, spare api.Loc, right bool) {
	t.Helper()
	if par.Right(l) != right {
		t.Errorf("right is %v: %v", !right, l)
	}
	got, e := par.Order(l, spare)
	if right && e != api.OK || !right && (e != api.ErrArg || len(got) > 0) {
		t.Errorf("%v, %v: %v", got, e, l)
	}
}

// P17.1: of Play, answers that are written out.
func TestPlay(t *testing.T) {
	at := []api.Loc{reg(0), reg(1), slot(0)}
	twice := []api.Loc{reg(0), reg(1), reg(0), reg(1), reg(0)}
	for i, x := range []struct {
		l         []api.Move
		at        []api.Loc
		has, want []int
	}{
		{nil, nil, nil, nil},
		{nil, nil, []int{1, 2}, nil},
		{moves(0, 1), nil, []int{1, 2}, nil},
		{nil, at, nil, []int{0, 0, 0}},
		{nil, at, []int{4}, []int{4, 0, 0}},
		{nil, at, []int{4, 5, 6, 7}, []int{4, 5, 6}},
		{moves(0, 1), at, []int{4, 5, 6}, []int{5, 5, 6}},
		{moves(0, 0), at, []int{4, 5, 6}, []int{4, 5, 6}},
		{moves(0, 1, 1, 0), at, []int{4, 5, 6}, []int{5, 5, 6}},
		{moves(1, 0, 0, 1), at, []int{4, 5, 6}, []int{4, 4, 6}},
		{moves(9, 0, 0, 1, 1, 9), at, []int{4, 5, 6}, []int{5, 4, 6}},
		{moves(0, 1, 0, 9), at, []int{4, 5, 6}, []int{0, 5, 6}},
		{moves(0, 9), at, []int{4, 5, 6}, []int{0, 5, 6}},
		{moves(9, 0), at, []int{4, 5, 6}, []int{4, 5, 6}},
		{moves(9, 0, 8, 9, 1, 8), at, []int{4, 5, 6}, []int{4, 4, 6}},
		{moves(0, 1), at, []int{4}, []int{0, 0, 0}},
		{moves(1, 0), at, []int{4}, []int{4, 4, 0}},
		{[]api.Move{move(reg(0), slot(0)), move(slot(0), reg(1))}, at, []int{4, 5, 6}, []int{6, 5, 5}},
		{[]api.Move{move(slot(1), reg(1)), move(reg(0), slot(1))}, at, []int{4, 5, 6}, []int{5, 5, 6}},
		{nil, twice, []int{4, 5, 6, 7, 8}, []int{4, 5, 6, 7, 8}},
		{moves(0, 1), twice, []int{4, 5, 6, 7, 8}, []int{5, 5, 6, 7, 8}},
		{moves(1, 0), twice, []int{4, 5, 6, 7, 8}, []int{4, 4, 6, 7, 8}},
		{moves(9, 0, 0, 1, 1, 9), twice, []int{4, 5, 6}, []int{5, 4, 6, 0, 0}},
		{moves(1, 0), twice, nil, []int{0, 0, 0, 0, 0}},
		{moves(0, 1), []api.Loc{reg(1), reg(0), reg(1), reg(0)}, []int{math.MinInt, math.MaxInt, -1}, []int{math.MinInt, math.MinInt, -1, 0}},
		{moves(40, -3, -3, 41), []api.Loc{reg(-3), reg(40), reg(41)}, []int{4, 5, 6}, []int{6, 4, 6}},
		{[]api.Move{move(api.Loc{Kind: 7, N: 7}, api.Loc{}), move(api.Loc{}, reg(0))}, []api.Loc{reg(0), {}, {Kind: 7, N: 7}}, []int{4, 5, 6}, []int{4, 4, 5}},
	} {
		for range 9 { // as many times as a map's order could be another one
			if got := par.Play(x.l, x.at, x.has); !slices.Equal(got, x.want) {
				t.Fatalf("%d: %v; want %v", i, got, x.want)
			}
		}
	}
}

package frame_test

import (
	"math"
	"slices"
	"testing"

	"portolan/api"
	"portolan/frame"
	"portolan/sample"
)

// places is locations of each kind, and of others, with numbers that they may have, and others.
func places() []api.Loc {
	var l []api.Loc
	for _, kind := range []int{api.LocNone, api.LocReg, api.LocSlot, 3, -1, 1<<32 + 1, 1<<32 + 2, math.MinInt, math.MaxInt} {
		for _, n := range append(sample.Far(), 0, 1, 2, 3, 4, 30, 31, 32, 33, 157, 158, 159, 160, 161, 1<<32+2) {
			l = append(l, api.Loc{Kind: kind, N: n})
		}
	}
	return l
}

// judged asks whether a frame is right; it answers so.
func judged(t *testing.T, x api.Frame, want bool) bool {
	t.Helper()
	if got := frame.Right(x); got != want {
		t.Fatalf("right is %v: %v", got, x)
	}
	return want
}

// P18.1: of Right, each number of slots, and each location as a home, and in a move.
func TestPlaces(t *testing.T) {
	rights, wrongs := 0, 0
	for _, n := range append(sample.Far(), 0, 1, 2, 3, 4, 5, 31, 32, 33, 158, 159, 160, 161, 162) {
		judged(t, api.Frame{Slots: n}, 1 <= n && n <= 160)
		for _, l := range places() {
			for _, x := range []api.Frame{
				{Slots: n, Homes: []api.Loc{l}},
				{Slots: n, Entry: []api.Move{move(l, reg(3))}},
				{Slots: n, Entry: []api.Move{move(reg(3), l)}},
				{Slots: n, Homes: []api.Loc{reg(1)}, Entry: []api.Move{move(l, l)}},
			} {
				if judged(t, x, right(x)) {
					rights++
				} else {
					wrongs++
				}
			}
		}
	}
	if rights < 500 || wrongs < 10000 {
		t.Errorf("%d are right alone, %d not", rights, wrongs)
	}
}

// P18.1: of Right, answers that are written out: what homes may be, and what may stand in moves.
func TestRight(t *testing.T) {
	for i, x := range []struct {
		homes []api.Loc
		entry []api.Move
		right bool
	}{
		{nil, nil, true},
		{[]api.Loc{{}, reg(0), reg(31), slot(0), slot(2), {}}, nil, true},
		{[]api.Loc{reg(5), reg(5), slot(1), slot(1)}, nil, true}, // homes may be alike
		{[]api.Loc{slot(3)}, nil, false},                         // the last slot is free
		{[]api.Loc{slot(4)}, nil, false},
		{[]api.Loc{slot(-1)}, nil, false},
		{[]api.Loc{reg(32)}, nil, false},
		{[]api.Loc{reg(-1)}, nil, false},
		{[]api.Loc{{N: 1}}, nil, false},
		{[]api.Loc{{N: -1}}, nil, false},
		{[]api.Loc{{Kind: 3}}, nil, false},
		{nil, []api.Move{move(slot(3), reg(31)), move(reg(0), slot(3))}, true},
		{nil, []api.Move{move(reg(0), slot(0)), move(reg(0), slot(0)), move(reg(1), reg(1))}, true}, // so may moves
		{nil, []api.Move{move(slot(4), reg(0))}, false},
		{nil, []api.Move{move(reg(0), slot(4))}, false},
		{nil, []api.Move{move(reg(0), slot(-1))}, false},
		{nil, []api.Move{move(reg(32), slot(0))}, false},
		{nil, []api.Move{move(reg(0), api.Loc{})}, false},
		{nil, []api.Move{move(api.Loc{}, slot(0))}, false},
		{nil, []api.Move{move(api.Loc{Kind: 3}, slot(0))}, false},
	} {
		if frame.Right(api.Frame{Slots: 4, Homes: x.homes, Entry: x.entry}) != x.right {
			t.Errorf("%d: right is %v", i, !x.right)
		}
	}
}

// P18.1: of Right, one fault at each place of a frame.
func TestFaults(t *testing.T) {
	var x api.Frame
	x.Slots = 160
	for n := range 32 {
		x.Homes = append(x.Homes, reg(n))
		x.Entry = append(x.Entry, move(reg(n), slot(5*n)))
	}
	for n := range 159 {
		x.Homes = append(x.Homes, slot(n))
		x.Entry = append(x.Entry, move(slot(n+1), slot(n)))
	}
	judged(t, x, true)
	for _, l := range []api.Loc{{N: 1}, reg(-1), reg(32), slot(-1), slot(160), {Kind: 3}, {Kind: -1}} {
		for i := range x.Homes {
			y := x
			y.Homes = slices.Clone(x.Homes)
			y.Homes[i] = l
			judged(t, y, false)
		}
		for i, m := range x.Entry {
			y := x
			y.Entry = slices.Clone(x.Entry)
			y.Entry[i] = move(l, m.From)
			judged(t, y, false)
			y.Entry[i] = move(m.To, l)
			judged(t, y, false)
		}
	}
	x.Slots = 161
	judged(t, x, false)
	x.Slots = 159
	judged(t, x, false)
}

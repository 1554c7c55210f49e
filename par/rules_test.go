package par_test

import (
	"math"
	"slices"
	"testing"

	"portolan/api"
	"portolan/par"
	"portolan/sample"
)

// answers is what all calls answer of moves.
type answers struct {
	right bool
	moves []api.Move
	err   api.Errno
	told  []int
}

// ask makes each call.
func ask(l []api.Move, spare api.Loc, at []api.Loc, has []int) answers {
	a := answers{right: par.Right(l), told: par.Play(l, at, has)}
	a.moves, a.err = par.Order(l, spare)
	return a
}

// same tells whether answers are alike.
func (a answers) same(b answers) bool {
	return a.right == b.right && a.err == b.err && slices.Equal(a.moves, b.moves) && slices.Equal(a.told, b.told)
}

// copied is answers of their own memory.
func (a answers) copied() answers {
	a.moves, a.told = slices.Clone(a.moves), slices.Clone(a.told)
	return a
}

// P17.1, and rules 5 and 6 of P1: what is handed in stays as it was, its spare room, too, and what stands there is not read; what is answered stays as it was, and is answered again.
func TestStays(t *testing.T) {
	l, spares := samples()
	for _, x := range append(ways(), rounds()...) {
		l, spares = append(l, x.l, append(slices.Clone(x.l), x.l...)), append(spares, reg(9), reg(9))
	}
	for i, m := range l {
		at := all()[i%190:]
		at = append(at[:len(at):len(at)], at[:min(i%5, len(at))]...)
		has := make([]int, max(0, len(at)+i%3-1))
		for j := range has {
			has[j] = 7*j - 30
		}
		want := ask(m, spares[i], at, has)
		x, y, z := sample.Room(m, move(spares[i], spares[i])), sample.Room(at, reg(0)), sample.Room(has, 77)
		moves, locs, numbers := sample.Spare(x), sample.Spare(y), sample.Spare(z)
		got := ask(x, spares[i], y, z)
		if !got.same(want) {
			t.Errorf("%v answer %v; want %v", m, got, want)
		}
		if !slices.Equal(sample.Spare(x), moves) || !slices.Equal(sample.Spare(y), locs) || !slices.Equal(sample.Spare(z), numbers) {
			t.Errorf("%v, %v or %v became %v, %v, %v", moves, locs, numbers, sample.Spare(x), sample.Spare(y), sample.Spare(z))
		}
		kept := got.copied()
		clear(x[:cap(x)])
		clear(y[:cap(y)])
		clear(z[:cap(z)])
		if !got.same(kept) {
			t.Errorf("answers of %v became %v; want %v", m, got, kept)
		}
		clear(got.moves[:cap(got.moves)])
		clear(got.told[:cap(got.told)])
		if !ask(m, spares[i], at, has).same(kept) {
			t.Errorf("answers of %v are others when asked again; want %v", m, kept)
		}
	}
}

// P17.1, and rule 4 of P1: lists without anything may be nil or empty.
func TestEmpty(t *testing.T) {
	for _, l := range [][]api.Move{nil, {}} {
		for _, at := range [][]api.Loc{nil, {}} {
			for _, has := range [][]int{nil, {}} {
				a := ask(l, reg(0), at, has)
				if !a.right || a.err != api.OK || len(a.moves) > 0 || len(a.told) > 0 {
					t.Errorf("without anything there is %v", a)
				}
			}
		}
	}
	if l := par.Play([]api.Move{}, []api.Loc{reg(0)}, []int{}); !slices.Equal(l, []int{0}) {
		t.Errorf("of no moves a location has %v", l)
	}
}

// P17.1, and rule 1 of P1: calls end and don't panic at whatever there is.
func TestAnything(t *testing.T) {
	numbers := append(sample.Far(), 0, 1, 2, 3, 31, 32, 159, 160, math.MinInt+1, math.MaxInt-1)
	for _, n := range numbers {
		for _, m := range numbers {
			for _, k := range numbers {
				x, y, z := api.Loc{Kind: n, N: m}, api.Loc{Kind: m, N: k}, api.Loc{Kind: k, N: n}
				l := []api.Move{move(x, y), move(y, z), move(z, x)}
				at, has := []api.Loc{x, y, z}, []int{k, m, n}
				a := ask(l, slot(3), at, has)
				if a.right != right(l) || !slices.Equal(a.told, played(l, at, has)) {
					t.Fatalf("%v: %v", l, a)
				}
				par.Order(nil, x)
				par.Order(l[:1], z)
			}
		}
	}
}

// P17.1, and rule 1 of P1: calls end, however many moves and locations there are.
func TestMany(t *testing.T) {
	const n = 1 << 18
	l, at, has := make([]api.Move, n), make([]api.Loc, n), make([]int, n)
	for i := range l {
		l[i], at[i], has[i] = move(slot(i), slot(i+1)), slot(i), i
	}
	got, e := par.Order(l, reg(0))
	if e != api.ErrArg || len(got) > 0 || par.Right(l) {
		t.Errorf("many moves: %v, %v", got[:min(len(got), 9)], e)
	}
	told := par.Play(l, at, has)
	for i, x := range told {
		if want := (i + 1) % n; x != want {
			t.Fatalf("%v has %d; want %d", at[i], x, want)
		}
	}
	for i := range l {
		l[i], at[i] = move(slot(i%50), slot(i%50+1)), reg(i%30)
	}
	if got, e := par.Order(l, reg(0)); e != api.ErrArg || len(got) > 0 {
		t.Errorf("many moves: %v, %v", got[:min(len(got), 9)], e)
	}
	if told := par.Play(l, at, has); !slices.Equal(told, has) {
		t.Error("what locations have became others, though no move touches them")
	}
}

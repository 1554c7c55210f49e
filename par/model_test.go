package par_test

import (
	"slices"
	"testing"

	"portolan/api"
	"portolan/par"
)

// ordered is what moves are to be ordered to: a model apart from the package, which asks all moves of each one.
func ordered(l []api.Move, spare api.Loc) []api.Move {
	var left, done []api.Move
	for _, m := range l {
		if m.To != m.From {
			left = append(left, m)
		}
	}
	for len(left) > 0 {
		i := 0
		for i < len(left) && wanted(left, i) {
			i++
		}
		if i < len(left) {
			done = append(done, left[i])
			left = slices.Concat(left[:i], left[i+1:])
			continue
		}
		x := left[0].To
		done = append(done, move(spare, x))
		for j := range left {
			if left[j].From == x {
				left[j].From = spare
			}
		}
	}
	return done
}

// wanted tells whether the i-th one's To is another one's From.
func wanted(l []api.Move, i int) bool {
	for j, m := range l {
		if j != i && m.From == l[i].To {
			return true
		}
	}
	return false
}

// right tells whether moves are right, by asking each two of them.
func right(l []api.Move) bool {
	for i, m := range l {
		for _, x := range []api.Loc{m.To, m.From} {
			if x.N < 0 || x.Kind == api.LocReg && x.N > 31 || x.Kind == api.LocSlot && x.N > 159 || x.Kind != api.LocReg && x.Kind != api.LocSlot {
				return false
			}
		}
		for _, y := range l[:i] {
			if y.To == m.To {
				return false
			}
		}
	}
	return true
}

// played is what locations have behind moves: a model apart from the package, which looks each location up in a list.
func played(l []api.Move, at []api.Loc, has []int) []int {
	all, told := slices.Clone(at), make([]int, len(at))
	copy(told, has)
	now := slices.Clone(told)
	number := func(x api.Loc) int {
		if i := slices.Index(all, x); i >= 0 {
			return i
		}
		all, now = append(all, x), append(now, 0)
		return len(all) - 1
	}
	for _, m := range l {
		from := number(m.From)
		v := now[from]
		now[number(m.To)] = v
	}
	return now[:len(at)]
}

// together is what locations, of which each one stands there once, have behind all moves at once.
func together(l []api.Move, at []api.Loc, has []int) []int {
	now := slices.Clone(has)
	for _, m := range l {
		now[slices.Index(at, m.To)] = has[slices.Index(at, m.From)]
	}
	return now
}

// promised asks of what moves were ordered to what P17.2 says: all locations but spare have what they have behind all at once.
func promised(t *testing.T, l, got []api.Move, spare api.Loc) {
	t.Helper()
	at := slices.DeleteFunc(all(), func(x api.Loc) bool { return x == spare })
	has := make([]int, len(at))
	for i := range has {
		has[i] = 1000 + i
	}
	want := together(l, at, has)
	if p := par.Play(got, at, has); !slices.Equal(p, want) {
		t.Fatalf("%v do not what %v do at once", got, l)
	}
	if p := played(got, at, has); !slices.Equal(p, want) {
		t.Fatalf("%v do not what %v do at once", got, l)
	}
}

// dice rolls numbers, the same ones each time.
type dice uint64

// to is a number from 0 to below n.
func (d *dice) to(n int) int {
	*d = *d*6364136223846793005 + 1442695040888963407
	return int(uint64(*d) >> 33 % uint64(n))
}

// shuffled is locations in another order.
func (d *dice) shuffled(l []api.Loc) []api.Loc {
	l = slices.Clone(l)
	for i := range l {
		j := i + d.to(len(l)-i)
		l[i], l[j] = l[j], l[i]
	}
	return l
}

// samples is many moves that are right, each beside a location that is none of theirs: few and many, of which many go round, or none, or many ask for one.
func samples() (l [][]api.Move, spares []api.Loc) {
	d := dice(17)
	for n := 1; n <= 191; n += 1 + n/20 {
		for _, froms := range []int{1, 2, n/3 + 1, n, 191} {
			for turn := range 4 {
				locs := d.shuffled(all())
				from := d.shuffled(locs[:min(froms, 191)])
				var m []api.Move
				for i := range n {
					x := from[d.to(len(from))]
					if turn > 0 { // no location is asked for much more often than others
						x = from[i%len(from)]
					}
					m = append(m, move(locs[i], x))
				}
				l, spares = append(l, m), append(spares, locs[191])
			}
		}
	}
	return l, spares
}

// P17.1 and P17.2: of Right, Order and Play, many moves, by a model apart from the package.
func TestModel(t *testing.T) {
	l, spares := samples()
	saved, left, plain := 0, 0, 0
	for i, m := range l {
		got, e := par.Order(m, spares[i])
		if want := ordered(m, spares[i]); e != api.OK || !slices.Equal(got, want) || !par.Right(m) {
			t.Fatalf("%v, %v; want %v: %v", got, e, want, m)
		}
		promised(t, m, got, spares[i])
		n := 0
		for _, x := range got {
			if x.To == spares[i] {
				n++
			}
		}
		saved += n
		if len(got) < len(m)+n {
			left++
		}
		if n == 0 && len(m) > 20 {
			plain++
		}
	}
	if len(l) < 1000 || saved < 1000 || left < 100 || plain < 20 {
		t.Errorf("of %d, %d were saved, of %d some were left out, %d had none saved", len(l), saved, left, plain)
	}
}

// over goes to all lists of n items.
func over[T any](items []T, n int, visit func(l []T)) {
	l := make([]T, n)
	var put func(i int)
	put = func(i int) {
		if i == n {
			visit(l)
			return
		}
		for _, x := range items {
			l[i] = x
			put(i + 1)
		}
	}
	put(0)
}

// between is all moves between locations.
func between(at []api.Loc) []api.Move {
	var l []api.Move
	for _, to := range at {
		for _, from := range at {
			l = append(l, move(to, from))
		}
	}
	return l
}

// P17.1 and P17.2: of Right and Order, all lists of up to three moves between four locations, one of which is spare, and one of which may not be moved.
func TestSmall(t *testing.T) {
	at := []api.Loc{reg(0), slot(0), reg(31), slot(159), slot(160)}
	rights, wrongs := 0, 0
	for n := range 4 {
		over(between(at), n, func(l []api.Move) {
			ok := right(l)
			if par.Right(l) != ok {
				t.Fatalf("right is %v: %v", !ok, l)
			}
			uses := slices.ContainsFunc(l, func(m api.Move) bool { return m.To == slot(159) || m.From == slot(159) })
			got, e := par.Order(l, slot(159))
			if !ok || uses {
				wrongs++
				if e != api.ErrArg || len(got) > 0 {
					t.Fatalf("%v, %v: %v", got, e, l)
				}
				return
			}
			rights++
			if want := ordered(l, slot(159)); e != api.OK || !slices.Equal(got, want) {
				t.Fatalf("%v, %v; want %v: %v", got, e, want, l)
			}
			promised(t, l, got, slot(159))
		})
	}
	if rights < 200 || wrongs < 10000 {
		t.Errorf("%d are right alone, %d not", rights, wrongs)
	}
}

// P17.1 and P17.2: of Order, all moves into up to four of five locations, in each order.
func TestOrders(t *testing.T) {
	at := []api.Loc{reg(0), slot(0), reg(1), slot(1), reg(2)}
	count := 0
	for n := range 5 {
		over(at[:4], n, func(to []api.Loc) {
			tos := slices.Clone(to)
			over(at, n, func(from []api.Loc) {
				l := make([]api.Move, n)
				for i := range l {
					l[i] = move(tos[i], from[i])
				}
				if !right(l) {
					return
				}
				count++
				got, e := par.Order(l, slot(2))
				if want := ordered(l, slot(2)); e != api.OK || !slices.Equal(got, want) {
					t.Fatalf("%v, %v; want %v: %v", got, e, want, l)
				}
				promised(t, l, got, slot(2))
			})
		})
	}
	if count != 1+4*5+12*25+24*125+24*625 {
		t.Errorf("there are %d", count)
	}
}

// P17.1: of Play, all lists of up to three moves between three locations, where none of these is told of, or each one, or one twice.
func TestPlays(t *testing.T) {
	at := []api.Loc{reg(0), slot(0), reg(1)}
	tells := [][]api.Loc{nil, at, at[:2], at[1:], at[2:], {reg(0), reg(0), slot(0)}, {slot(0), reg(1), slot(0), slot(0)}, {reg(1), reg(0), reg(1), reg(0), slot(0)}}
	for n := range 4 {
		over(between(at), n, func(l []api.Move) {
			for _, x := range tells {
				for _, has := range [][]int{nil, {7}, {7, 8}, {7, 8, 9, 10, 11, 12}} {
					if got, want := par.Play(l, x, has), played(l, x, has); !slices.Equal(got, want) {
						t.Fatalf("%v have %v, behind %v of %v; want %v", x, got, l, has, want)
					}
				}
			}
		})
	}
}

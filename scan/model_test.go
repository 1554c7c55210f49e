package scan_test

import (
	"cmp"
	"fmt"
	"slices"
	"testing"

	"portolan/api"
	"portolan/sample"
	"portolan/scan"
	"portolan/span"
)

// lists is spans that are right: such as were made, and those of functions.
func lists() [][]api.Span {
	all := sample.Spans()
	for _, p := range sample.Laid() {
		for _, f := range p.Funcs {
			all = append(all, span.Spans(f))
		}
	}
	return all
}

// numbers is how many registers are asked for.
func numbers() []int {
	return []int{0, 1, 2, 3, 4, 5, 8, 15, 31, 32}
}

// course is a scan apart from the package: which span has a register (-1: none has it), and which spans went to a slot.
type course struct {
	spans []api.Span
	regs  []int
	slots [][]int
}

// scanned is where spans are.
func scanned(l []api.Span, regs int) []api.Loc {
	c := course{spans: l, regs: slices.Repeat([]int{-1}, regs)}
	all := make([]api.Loc, len(l))
	for i, s := range l {
		for r, j := range c.regs {
			if j >= 0 && l[j].To < s.From {
				c.regs[r] = -1
			}
		}
		r, out := c.gets(i)
		if out >= 0 {
			all[out] = slot(c.toSlot(out))
		}
		if r >= 0 {
			c.regs[r], all[i] = i, reg(r)
		}
	}
	return all
}

// gets is the register that the i-th span gets, and the span that goes to a slot (-1: none).
func (c *course) gets(i int) (r, out int) {
	if c.spans[i].Call {
		return -1, i
	}
	if r := slices.Index(c.regs, -1); r >= 0 {
		return r, -1
	}
	out = slices.MaxFunc(append(slices.Clone(c.regs), i), func(j, k int) int {
		return cmp.Or(cmp.Compare(c.spans[j].To, c.spans[k].To), cmp.Compare(c.spans[j].Var, c.spans[k].Var))
	})
	return slices.Index(c.regs, out), out
}

// toSlot has the i-th span go to a slot; it answers which one.
func (c *course) toSlot(i int) int {
	for n, l := range c.slots {
		if !slices.ContainsFunc(l, func(j int) bool { return together(c.spans[i], c.spans[j]) }) {
			c.slots[n] = append(l, i)
			return n
		}
	}
	c.slots = append(c.slots, []int{i})
	return len(c.slots) - 1
}

// together tells whether spans that have points have one in common.
func together(a, b api.Span) bool {
	return a.From <= b.To && b.From <= a.To
}

// P16.1 and P16.2: of Scan, Slots and Clash, many spans, by a model apart from the package.
func TestModel(t *testing.T) {
	var regs, slots, most int
	for _, l := range lists() {
		for _, n := range numbers() {
			want := scanned(l, n)
			got, e := scan.Scan(l, n)
			if e != api.OK || !slices.Equal(got, want) {
				t.Fatalf("of %d registers: %v, %v; want %v: %s", n, got, e, want, shown(l))
			}
			need := 0
			for _, x := range want {
				if x.Kind == api.LocSlot {
					slots++
					need = max(need, x.N+1)
				} else {
					regs++
				}
			}
			most = max(most, need)
			if s := scan.Slots(got); s != need {
				t.Fatalf("%v need %d slots; want %d", got, s, need)
			}
			promised(t, l, got, n)
		}
	}
	if regs < 50000 || slots < 50000 || most < 40 {
		t.Errorf("there are %d in registers alone, %d in slots, and at most %d slots", regs, slots, most)
	}
}

// promised asks of what was scanned what P16.2 says.
func promised(t *testing.T, l []api.Span, locs []api.Loc, regs int) {
	t.Helper()
	if scan.Clash(l, locs) || clashes(l, locs) {
		t.Fatalf("%v clash: %s", locs, shown(l))
	}
	for i, x := range locs {
		switch {
		case x.N < 0, x.Kind != api.LocReg && x.Kind != api.LocSlot, l[i].Call && x.Kind != api.LocSlot, x.Kind == api.LocReg && x.N >= regs:
			t.Fatalf("of %d registers the span %v is at %v: %s", regs, l[i], x, shown(l))
		case x.Kind == api.LocSlot && !l[i].Call && crowd(l, l[i]) <= regs:
			t.Fatalf("of %d registers the span %v, with %d at a point, has none: %s", regs, l[i], crowd(l, l[i]), shown(l))
		}
	}
}

// crowd is how many spans at most, but those that are kept across a call, have a point of s: there are most of them at one where one begins.
func crowd(l []api.Span, s api.Span) int {
	most := 0
	for _, x := range l {
		p := api.Span{From: max(x.From, s.From), To: max(x.From, s.From)}
		n := 0
		for _, y := range l {
			if !y.Call && together(y, p) {
				n++
			}
		}
		if together(p, s) {
			most = max(most, n)
		}
	}
	return most
}

// clashes is what Clash is to answer: it asks all pairs for a point.
func clashes(l []api.Span, locs []api.Loc) bool {
	for i := range min(len(l), len(locs)) {
		for j := range i {
			p := max(l[i].From, l[j].From)
			if locs[i] == locs[j] && locs[i].Kind != api.LocNone && p <= l[i].To && p <= l[j].To {
				return true
			}
		}
	}
	return false
}

// within is all spans from one point to another one of the least to the most.
func within(least, most int) []api.Span {
	var all []api.Span
	for from := least; from <= most; from++ {
		for to := least; to <= most; to++ {
			all = append(all, one(0, from, to))
		}
	}
	return all
}

// over goes to all lists of n items.
func over[T any](items []T, n int, visit func(l []T)) {
	l := make([]T, n)
	var put func(i int)
	put = func(i int) {
		if i == n {
			visit(l)
			return
		}
		for _, x := range items {
			l[i] = x
			put(i + 1)
		}
	}
	put(0)
}

// P16.1 and P16.2: of Right and Scan, all lists of up to three spans, of three variables, at four points, and of four spans at three.
func TestSmall(t *testing.T) {
	rights, wrongs := 0, 0
	for n, most := range []int{3, 3, 3, 3, 2} {
		var all []api.Span
		for _, s := range within(0, most) {
			for v := range min(n, 3) {
				s.Var = v
				all = append(all, s)
				if s.Call = s.From == 1 && v == 1; s.Call {
					all = append(all, s)
				}
			}
		}
		over(all, n, func(l []api.Span) {
			e, regs := api.ErrArg, n-1
			if right(l) {
				e = api.OK
				rights++
			} else {
				wrongs++
			}
			if _, got := scan.Scan(l, 2); got != e || scan.Right(l) != (e == api.OK) {
				t.Fatalf("it is %v; want %v: %v", got, e, l)
			}
			for ; e == api.OK && regs >= 0; regs-- {
				got, _ := scan.Scan(l, regs)
				if want := scanned(l, regs); !slices.Equal(got, want) {
					t.Fatalf("of %d registers: %v; want %v: %v", regs, got, want, l)
				}
				promised(t, l, got, regs)
			}
		})
	}
	if rights < 1000 || wrongs < 100000 {
		t.Errorf("%d are right alone, %d not", rights, wrongs)
	}
}

// right tells whether spans are right, by asking each two of them.
func right(l []api.Span) bool {
	for i, s := range l {
		if s.From < 0 || s.From > s.To || s.To > 1<<40 {
			return false
		}
		for _, x := range l[:i] {
			if x.Var == s.Var || x.From > s.From || x.From == s.From && x.Var > s.Var {
				return false
			}
		}
	}
	return len(l) <= api.MaxVars
}

// P16.1 and P16.2: of Scan, all lists of four spans that begin behind one another, or with one another, of variables in each order.
func TestOrders(t *testing.T) {
	n := 0
	over(within(0, 4), 4, func(l []api.Span) {
		for _, vars := range [][]int{{0, 1, 2, 3}, {3, 2, 1, 0}, {1, 3, 0, 2}, {2, 0, 3, 1}} {
			for i := range l {
				l[i].Var = vars[i]
			}
			if !right(l) {
				continue
			}
			n++
			for regs := range 4 {
				got, e := scan.Scan(l, regs)
				if want := scanned(l, regs); e != api.OK || !slices.Equal(got, want) {
					t.Fatalf("of %d registers: %v, %v; want %v: %v", regs, got, e, want, l)
				}
			}
		}
	})
	if n < 6000 {
		t.Errorf("there are %d alone", n)
	}
}

// P16.1: of Clash, all lists of up to three spans, such as have no point, too, at each location.
func TestPairs(t *testing.T) {
	locs := []api.Loc{{}, {N: 1}, reg(0), reg(1), slot(0), slot(1)}
	yes, no := 0, 0
	for n := range 4 {
		over(within(-1, 1), n, func(l []api.Span) {
			over(locs, n, func(at []api.Loc) {
				want := clashes(l, at)
				if scan.Clash(l, at) != want {
					t.Fatalf("%v at %v: %v", l, at, !want)
				}
				if want {
					yes++
				} else {
					no++
				}
			})
		})
	}
	if yes < 10000 || no < 10000 {
		t.Errorf("%d clash alone, %d don't", yes, no)
	}
}

// P16.1: of Clash, many spans at locations that clash, and that nearly do.
func TestNearly(t *testing.T) {
	yes, no := 0, 0
	for _, l := range sample.Spans() {
		at, _ := scan.Scan(l, 4)
		for i := range at {
			x := slices.Clone(at)
			x[i] = at[(i+5)%len(at)]
			want := clashes(l, x)
			if scan.Clash(l, x) != want {
				t.Fatalf("%v at %v: %v", l, x, !want)
			}
			if want {
				yes++
			} else {
				no++
			}
		}
	}
	if yes < 5000 || no < 5000 {
		t.Errorf("%d clash alone, %d don't", yes, no)
	}
}

// shown is the beginning of what is told of a fault.
func shown(x any) string {
	s := fmt.Sprint(x)
	return s[:min(len(s), 1500)]
}

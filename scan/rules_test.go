package scan_test

import (
	"math"
	"slices"
	"testing"

	"portolan/api"
	"portolan/sample"
	"portolan/scan"
)

// answers is what all calls answer of spans.
type answers struct {
	right, clash bool
	locs         [][]api.Loc
	errs         []api.Errno
	slots        int
}

// ask makes each call of spans, and of locations.
func ask(l []api.Span, at []api.Loc) answers {
	a := answers{right: scan.Right(l), clash: scan.Clash(l, at), slots: scan.Slots(at)}
	for _, regs := range []int{0, 1, 3, 32, 33, -1} {
		locs, e := scan.Scan(l, regs)
		a.locs, a.errs = append(a.locs, locs), append(a.errs, e)
	}
	return a
}

// same tells whether answers are alike.
func (a answers) same(b answers) bool {
	return a.right == b.right && a.clash == b.clash && a.slots == b.slots &&
		slices.Equal(a.errs, b.errs) && slices.EqualFunc(a.locs, b.locs, slices.Equal)
}

// copied is answers of their own memory.
func (a answers) copied() answers {
	a.locs, a.errs = sample.Copied(a.locs), slices.Clone(a.errs)
	return a
}

// places is locations for as many spans as there are in a list, more, or less.
func places(l []api.Span) []api.Loc {
	at := make([]api.Loc, max(len(l)+len(l)%5-2, 0))
	for i := range at {
		at[i] = api.Loc{Kind: i % 3, N: i % 7}
	}
	return at
}

// few is spans for the rules, such as aren't right, too.
func few() [][]api.Span {
	all := append(sample.Spans(), many(48, 9, 0), many(49, 9, 0), many(60, 99, 1))
	for _, l := range sample.Spans() {
		l = slices.Clone(l)
		slices.Reverse(l)
		all = append(all, l)
	}
	return all
}

// P16.1, and rules 5 and 6 of P1: what is handed in stays as it was, its spare room, too, and what stands there is not read; what is answered stays as it was, and is answered again.
func TestStays(t *testing.T) {
	for _, l := range few() {
		at := places(l)
		want := ask(l, at)
		x, y := sample.Room(l, one(7, 0, 1<<39)), sample.Room(at, slot(1<<39))
		spans, locs := sample.Spare(x), sample.Spare(y)
		got := ask(x, y)
		if !got.same(want) {
			t.Errorf("%v at %v answer %v; want %v", l, at, got, want)
		}
		if !slices.Equal(sample.Spare(x), spans) || !slices.Equal(sample.Spare(y), locs) {
			t.Errorf("%v at %v became %v at %v", spans, locs, sample.Spare(x), sample.Spare(y))
		}
		kept := got.copied()
		clear(x[:cap(x)])
		clear(y[:cap(y)])
		if !got.same(kept) || !ask(l, at).same(kept) {
			t.Errorf("answers of %v at %v became %v; want %v", l, at, got, kept)
		}
		if !sample.Apart(got.locs, reg(77)) || !ask(l, at).same(kept) {
			t.Errorf("answers of %v at %v share memory", l, at)
		}
	}
}

// P16.1, and rule 4 of P1: lists without anything may be nil or empty.
func TestEmpty(t *testing.T) {
	for _, l := range [][]api.Span{nil, {}} {
		for _, at := range [][]api.Loc{nil, {}} {
			a := ask(l, at)
			if !a.right || a.clash || a.slots != 0 || !slices.Equal(a.errs, []api.Errno{0, 0, 0, 0, api.ErrArg, api.ErrArg}) {
				t.Errorf("without anything there is %v", a)
			}
			for _, locs := range a.locs {
				if len(locs) > 0 {
					t.Errorf("of no spans there are %v", locs)
				}
			}
		}
	}
}

// P16.1, and rule 1 of P1: calls end and don't panic at whatever there is.
func TestAnything(t *testing.T) {
	numbers := append(sample.Far(), 0, 1, 2, 1<<40-1, 1<<40, 1<<40+1, math.MinInt+1, math.MaxInt-1)
	for _, n := range numbers {
		for _, m := range numbers {
			for _, k := range numbers {
				l := []api.Span{one(k, n, m), one(n, m, k), call(m, k, n)}
				at := []api.Loc{{Kind: n, N: m}, {Kind: n, N: m}, {Kind: 2, N: k}}
				ask(l, at)
				scan.Scan(l, n)
				if want := clashes(l, at); scan.Clash(l, at) != want {
					t.Fatalf("%v at %v: %v", l, at, !want)
				}
				if right(l) != scan.Right(l) {
					t.Fatalf("right is %v: %v", !right(l), l)
				}
			}
		}
	}
}

// P16.1, and rule 1 of P1: calls end, however many spans and locations there are.
func TestMany(t *testing.T) {
	const n = 1 << 18
	l, at := make([]api.Span, n), make([]api.Loc, n)
	for i := range l {
		l[i], at[i] = one(i, 2*i, 2*i+1), slot(i%3)
	}
	if scan.Right(l) || scan.Clash(l, at) || scan.Slots(at) != 3 {
		t.Error("many spans behind one another are right, or clash")
	}
	if locs, e := scan.Scan(l, 2); e != api.ErrArg || len(locs) > 0 {
		t.Errorf("many spans: %v", e)
	}
	at[n-1] = at[n-2]
	if scan.Clash(l, at) {
		t.Error("many spans behind one another clash")
	}
	l[n-1].From = l[n-2].To
	if !scan.Clash(l, at) {
		t.Error("the last two of many don't clash")
	}
	for i := range l {
		l[i].From, at[i] = 0, slot(n-i)
	}
	if scan.Clash(l, at) || scan.Slots(at) != n+1 {
		t.Error("many spans that meet clash, where each one has its own")
	}
}

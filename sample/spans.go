package sample

import (
	"cmp"
	"slices"

	"portolan/api"
)

// Spans is lists of spans that are right: few and many of them, that stand close together and far apart, short and long ones.
func Spans() [][]api.Span {
	all := [][]api.Span{nil}
	d := dice(16)
	for n := 1; n <= api.MaxVars; n++ {
		for _, points := range []int{1, 3, 12, 100, 1 << 30} {
			for _, long := range []int{1, 4, 30, 1 << 30} {
				all = append(all, d.spans(n, points, min(long, points)))
			}
		}
	}
	return all
}

// spans is so many of them, which begin within so many points, and are at most so long. A part of them is kept across a call, of some lists none.
func (d *dice) spans(count, points, long int) []api.Span {
	l, call := make([]api.Span, count), d.to(0, 3)
	for i := range l {
		from := d.to(0, points)
		l[i] = api.Span{Var: 7*i - d.to(0, 6) - d.to(0, 1)<<40, From: from, To: from + d.to(0, long), Call: d.to(0, 9) < call}
	}
	slices.SortFunc(l, func(a, b api.Span) int {
		return cmp.Or(cmp.Compare(a.From, b.From), cmp.Compare(a.Var, b.Var))
	})
	return l
}

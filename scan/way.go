package scan

import (
	"portolan/api"
	"portolan/span"
)

// way is a go along the line: spans that are right, and the locations that they have so far.
type way struct {
	spans []api.Span
	locs  []api.Loc
}

// put gives the i-th span its location, while those ahead of it have theirs; one of them may go to a slot for it.
func (w way) put(i, regs int) {
	if w.spans[i].Call {
		w.toSlot(i)
		return
	}
	if n := w.least(api.LocReg, i); n < regs {
		w.locs[i] = api.Loc{Kind: api.LocReg, N: n}
		return
	}
	last := w.last(i)
	w.locs[i] = w.locs[last] // nowhere yet, if the last one is this one
	w.toSlot(last)
}

// toSlot has the i-th span go to a slot.
func (w way) toSlot(i int) {
	w.locs[i] = api.Loc{Kind: api.LocSlot, N: w.least(api.LocSlot, i)}
}

// least is the least number of a location of a kind that no span has that meets the i-th one. Those ahead of it that it doesn't meet are over where it begins.
func (w way) least(kind, i int) int {
	taken := func(n int) bool {
		for j, x := range w.locs {
			if x == (api.Loc{Kind: kind, N: n}) && span.Meet(w.spans[j], w.spans[i]) {
				return true
			}
		}
		return false
	}
	n := 0
	for taken(n) {
		n++
	}
	return n
}

// last is which span goes to a slot, of the i-th one and those that have registers: those whose registers are free again end ahead of it, and so are never the last.
func (w way) last(i int) int {
	last := i
	for j, x := range w.locs[:i] {
		if x.Kind == api.LocReg && ends(w.spans[last], w.spans[j]) {
			last = j
		}
	}
	return last
}

// ends tells whether a ends ahead of b; of those that end together the greater variable counts as the later one.
func ends(a, b api.Span) bool {
	return a.To < b.To || a.To == b.To && a.Var < b.Var
}

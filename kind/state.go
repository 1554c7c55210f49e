package kind

import (
	"slices"

	"portolan/api"
	"portolan/bitset"
	"portolan/flow"
)

// state is what is set, and fresh, at a place. Its sets are never written again, so states may share them.
type state struct {
	set, fresh []uint64
}

// behind is the state behind an instruction.
func (s state) behind(f api.Func, x api.Ins) state {
	set, fresh := Step(f, x, s.set, s.fresh)
	return state{set, fresh}
}

// through is the state behind a list of instructions.
func (s state) through(f api.Func, l []api.Ins) state {
	for _, x := range l {
		s = s.behind(f, x)
	}
	return s
}

// meet is what holds in both states.
func (s state) meet(t state) state {
	return state{bitset.Meet(s.set, t.set), bitset.Meet(s.fresh, t.fresh)}
}

// same tells whether two states are.
func (s state) same(t state) bool {
	return bitset.Same(s.set, t.set) && bitset.Same(s.fresh, t.fresh)
}

// states has the state at the beginning of each block that was come to.
type states map[int]state

// come brings a state along an edge to a block, and tells whether the block wasn't met before, or less holds there now.
func (l states) come(b int, s state) bool {
	if old, met := l[b]; met {
		s = s.meet(old)
		if s.same(old) {
			return false
		}
	}
	l[b] = s
	return true
}

// begins is the states of all reached blocks. A block is due again when less holds at its beginning than before, since less may hold behind it, too.
func begins(f api.Func) states {
	l := states{}
	if len(f.Blocks) == 0 {
		return l
	}
	l[0] = state{set: arguments(f)}
	for due := []int{0}; len(due) > 0; {
		b := due[0]
		due = due[1:]
		out := l[b].through(f, f.Blocks[b].Code)
		for _, n := range flow.Next(f, b) {
			if l.come(n, out) && !slices.Contains(due, n) {
				due = append(due, n)
			}
		}
	}
	return l
}

// arguments is what is set as a function begins.
func arguments(f api.Func) []uint64 {
	var l []int
	for v := range min(f.Params, len(f.Kinds)) {
		l = append(l, v)
	}
	return bitset.Of(l...)
}

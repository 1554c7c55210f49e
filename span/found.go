package span

import (
	"slices"

	"portolan/api"
	"portolan/bitset"
	"portolan/flow"
	"portolan/keep"
	"portolan/live"
	"portolan/shape"
)

// spans is spans under way, by their variables.
type spans map[int]api.Span

// found is the spans of all variables that are there somewhere.
func found(f api.Func) spans {
	l := spans{}
	point := 0
	for _, b := range flow.Order(f) {
		l.block(f, b, point)
		point += 2 * len(f.Blocks[b].Code)
	}
	return l
}

// block lengthens spans by a block's points, the first of which is point. It goes back from the block's end, since each call that says what is live looks at the whole function.
func (l spans) block(f api.Func, b, point int) {
	behind := live.Out(f, b)
	for i, x := range slices.Backward(f.Blocks[b].Code) {
		ahead := behind
		if d, ok := shape.Sets(x); ok {
			ahead = bitset.Without(behind, d)
		}
		ahead = bitset.With(ahead, shape.Uses(x)...)
		l.ins(x, keep.Close(f, behind), point+2*i+1)
		l.lengthen(keep.Close(f, ahead), point+2*i)
		behind = ahead
	}
}

// ins lengthens spans by the point behind an instruction, where that is kept.
func (l spans) ins(x api.Ins, kept []uint64, point int) {
	across := kept
	if d, ok := shape.Sets(x); ok {
		kept, across = bitset.With(kept, d), bitset.Without(kept, d)
	}
	l.lengthen(kept, point)
	if x.Op == api.OpCall {
		l.mark(across)
	}
}

// lengthen lengthens the spans of these variables, as far as to a point.
func (l spans) lengthen(vars []uint64, point int) {
	for _, v := range bitset.List(vars) {
		s, ok := l[v]
		if !ok {
			s = api.Span{Var: v, From: point, To: point}
		}
		s.From, s.To = min(s.From, point), max(s.To, point)
		l[v] = s
	}
}

// mark marks the spans of these variables, which are there, as kept across a call.
func (l spans) mark(vars []uint64) {
	for _, v := range bitset.List(vars) {
		s := l[v]
		s.Call = true
		l[v] = s
	}
}

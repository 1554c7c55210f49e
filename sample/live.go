package sample

import (
	"slices"

	"portolan/api"
	"portolan/shape"
)

// Lives is the variables that are asked for yet at a place, rising.
func Lives(f api.Func, p api.Place) []int {
	var l []int
	for v := range f.Kinds {
		if lives(f, p, v) {
			l = append(l, v)
		}
	}
	return l
}

// lives tells whether v is asked for yet: by going all ways from a place on, each as far as something is done with v.
func lives(f api.Func, from api.Place, v int) bool {
	met := make([]bool, len(f.Blocks))
	for open := []api.Place{from}; len(open) > 0; open = open[1:] {
		l := f.Blocks[open[0].Block].Code
		asks, sets := first(l[open[0].At:], v)
		if asks {
			return true
		}
		if sets {
			continue
		}
		for _, n := range shape.Next(l[len(l)-1]) {
			if !met[n] {
				met[n] = true
				open = append(open, api.Place{Block: n})
			}
		}
	}
	return false
}

// first is what instructions that follow one another do with v first: ask for it, set it, or neither.
func first(l []api.Ins, v int) (asks, sets bool) {
	for _, x := range l {
		if slices.Contains(shape.Uses(x), v) {
			return true, false
		}
		if d, ok := shape.Sets(x); ok && d == v {
			return false, true
		}
	}
	return false, false
}

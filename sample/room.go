package sample

import (
	"math"
	"slices"

	"portolan/api"
)

// Far is numbers that no block has.
func Far() []int {
	return []int{math.MinInt, -1 << 32, -41, -2, -1, 40, 41, 1 << 32, 1<<32 + 1, math.MaxInt}
}

// Roomy is a function with spare room, which is marked, behind each list.
func Roomy(f api.Func) api.Func {
	f.Kinds, f.Base = room(f.Kinds, 77), room(f.Base, 77)
	blocks := room(f.Blocks, api.Block{Code: []api.Ins{{Op: 77}}})
	for b := range blocks {
		blocks[b].Code = room(blocks[b].Code, api.Ins{Op: 21, N: 77})
	}
	f.Blocks = blocks
	return f
}

// room is a list of its own memory, behind which x stands in spare room.
func room[T any](l []T, x T) []T {
	return append(slices.Clone(l), x)[:len(l)]
}

// Whole is a copy of a roomy function, with what stands in its spare room.
func Whole(f api.Func) api.Func {
	f.Kinds, f.Base = spare(f.Kinds), spare(f.Base)
	blocks := spare(f.Blocks)
	for b := range len(blocks) - 1 {
		blocks[b].Code = spare(blocks[b].Code)
	}
	f.Blocks = blocks
	return f
}

// spare is a copy of a list, and of what stands in the spare room that room made.
func spare[T any](l []T) []T {
	return slices.Clone(l[:len(l)+1])
}

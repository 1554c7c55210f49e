package sample

import "slices"

// Copied is lists alike, of their own memory.
func Copied[T any](lists [][]T) [][]T {
	lists = slices.Clone(lists)
	for i, l := range lists {
		lists[i] = slices.Clone(l)
	}
	return lists
}

// Spoil writes x all over a list, and into its spare room.
func Spoil[T any](l []T, x T) {
	l = l[:cap(l)]
	for i := range l {
		l[i] = x
	}
}

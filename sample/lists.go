package sample

import "slices"

// Copied is lists alike, of their own memory.
func Copied[T any](lists [][]T) [][]T {
	lists = slices.Clone(lists)
	for i, l := range lists {
		lists[i] = slices.Clone(l)
	}
	return lists
}

// Spoil writes x all over a list, and into its spare room.
func Spoil[T any](l []T, x T) {
	l = l[:cap(l)]
	for i := range l {
		l[i] = x
	}
}

// Apart tells whether lists share no memory: x is written all over one after the other, and the others stay as they were.
func Apart[T comparable](lists [][]T, x T) bool {
	want := Copied(lists)
	for i, l := range lists {
		Spoil(l, x)
		if !slices.EqualFunc(lists[i+1:], want[i+1:], slices.Equal) {
			return false
		}
	}
	return true
}

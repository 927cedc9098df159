package tree

import "slices"

// spliced is a list in which others stand in the place of those from one place on, up to another one. It is a new list.
func spliced[T any](l []T, from, to int, put ...T) []T {
	return slices.Concat(l[:from], put, l[to:])
}

// halved are the halves of a list, as alike in size as they can be: what tips the scales goes to the side on which more of it lies. The first one ends where its room does: what is put behind it does not go into the second one.
func halved[T any](l []T, size func(T) int) (left, right []T) {
	all, ahead, i := total(l, size), 0, 0
	for i < len(l) && 2*ahead+size(l[i]) < all {
		ahead += size(l[i])
		i++
	}
	return l[:i:i], l[i:len(l):len(l)]
}

// total is the size of a whole list.
func total[T any](l []T, size func(T) int) int {
	all := 0
	for _, x := range l {
		all += size(x)
	}
	return all
}

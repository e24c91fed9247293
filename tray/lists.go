package tray

import (
	"cmp"
	"slices"
)

// place is where a page stands in a list that rises by the pages its elements are of, or where it would stand, and whether it is there.
func place[T any](list []T, page int, of func(T) int) (int, bool) {
	return slices.BinarySearchFunc(list, page, func(x T, page int) int {
		return cmp.Compare(of(x), page)
	})
}

// each is what a function makes of each element of a list, in their order.
func each[T, U any](list []T, of func(T) U) []U {
	var all []U
	for _, x := range list {
		all = append(all, of(x))
	}
	return all
}

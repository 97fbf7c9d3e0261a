package rank

import (
	"cmp"
	"slices"
)

// column has something of each that is sorted; hold is below 0, if what a has comes ahead of what b has, and above 0, if it comes behind.
type column[T any] struct {
	all  []T
	hold func(a, b T) int
}

// order is the places from 0 up to size, as the first column says in which they differ; where they differ in none, the lesser place comes ahead.
func order[T any](size int, columns []column[T]) []int {
	places := make([]int, size)
	for i := range places {
		places[i] = i
	}
	slices.SortFunc(places, func(a, b int) int {
		for _, column := range columns {
			if held := column.hold(column.all[a], column.all[b]); held != 0 {
				return held
			}
		}
		return cmp.Compare(a, b)
	})
	return places
}

// Package lists has what the layers ask of lists, whatever these are of.
package lists

import (
	"iter"
	"slices"
)

// Each reports whether all elements are as asked, by their numbers.
func Each[T any](list []T, is func(int, T) bool) bool {
	for i, x := range list {
		if !is(i, x) {
			return false
		}
	}
	return true
}

// Least returns the minimum of its numbers.
func Least(first int, others ...int) int {
	for _, n := range others {
		first = min(first, n)
	}
	return first
}

// Rising yields all increasing lists of the numbers below many: shorter ones first, those of one length in lexicographic order, each in memory of its own.
func Rising(many int) iter.Seq[[]int] {
	return func(yield func([]int) bool) {
		list := make([]int, 0, max(many, 0))
		var extend func(more, from int) bool
		extend = func(more, from int) bool {
			if more == 0 {
				return yield(slices.Clone(list))
			}
			// A number above these would leave too few for those that are still to come.
			for n := from; n <= many-more; n++ {
				list = append(list, n)
				goesOn := extend(more-1, n+1)
				list = list[:len(list)-1]
				if !goesOn {
					return false
				}
			}
			return true
		}
		for length := 0; length <= many && extend(length, 0); length++ {
		}
	}
}

// Choices yields all lists that have one number of each of the ranges, whose limits are numbers of theirs, too: in lexicographic order, each in memory of its own.
func Choices[R any](ranges []R, limits func(R) (low, high int)) iter.Seq[[]int] {
	return func(yield func([]int) bool) {
		list := make([]int, len(ranges))
		var choose func(i int) bool
		choose = func(i int) bool {
			if i == len(ranges) {
				return yield(slices.Clone(list))
			}
			low, high := limits(ranges[i])
			for n := low; n <= high; n++ {
				list[i] = n
				if !choose(i + 1) {
					return false
				}
			}
			return true
		}
		choose(0)
	}
}

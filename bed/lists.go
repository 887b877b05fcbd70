package bed

import (
	"iter"
	"slices"
)

// each reports whether all elements are as asked, by their numbers.
func each[T any](list []T, is func(int, T) bool) bool {
	for i, x := range list {
		if !is(i, x) {
			return false
		}
	}
	return true
}

// least returns the minimum of its numbers.
func least(first int, others ...int) int {
	for _, n := range others {
		first = min(first, n)
	}
	return first
}

// lists yields all increasing lists of the numbers below many: shorter ones first, those of one length in lexicographic order, each in memory of its own.
func lists(many int) iter.Seq[[]int] {
	return func(yield func([]int) bool) {
		for length := range many + 1 {
			var extend func(list []int, from int) bool
			extend = func(list []int, from int) bool {
				if len(list) == length {
					return yield(slices.Clone(list))
				}
				for n := from; n < many; n++ {
					if !extend(append(list, n), n+1) {
						return false
					}
				}
				return true
			}
			if !extend(nil, 0) {
				return
			}
		}
	}
}

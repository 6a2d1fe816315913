package corpus

import "slices"

// Merge is all numbers of two lists, rising, each once.
func Merge(a, b []int) []int { return rising(slices.Concat(a, b)) }

// Without is the numbers of the first list that the second has not, rising, each once.
func Without(a, b []int) []int {
	taken := rising(slices.Clone(b))
	return slices.DeleteFunc(rising(slices.Clone(a)), func(n int) bool {
		_, found := slices.BinarySearch(taken, n)
		return found
	})
}

// rising sorts a list of the caller's own, and leaves each number once.
func rising(list []int) []int {
	slices.Sort(list)
	return slices.Compact(list)
}

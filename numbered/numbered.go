// Package numbered has what a pool does with its blocks and an index with its
// nodes: both are stored in a map, under numbers from 1 on.
package numbered

import "slices"

// Lowest returns the lowest number from 1 on that is not in use.
func Lowest[T any](m map[int]T) int {
	for n := 1; ; n++ {
		if _, used := m[n]; !used {
			return n
		}
	}
}

// Sorted returns all numbers in use, in increasing order.
func Sorted[T any](m map[int]T) []int {
	var l []int
	for n := range m {
		l = append(l, n)
	}
	slices.Sort(l)
	return l
}

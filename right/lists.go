package right

import "slices"

// every tells whether a condition holds for all elements.
func every[T any](l []T, holds func(T) bool) bool {
	for _, x := range l {
		if !holds(x) {
			return false
		}
	}
	return true
}

// rises tells whether each element but the first one is greater than the one before
// it.
func rises(l []int) bool {
	for n := 1; n < len(l); n++ {
		if l[n] <= l[n-1] {
			return false
		}
	}
	return true
}

// inOrder returns the indexes of the elements by this order, those of the same ones
// rising.
func inOrder[T any](l []T, compare func(a, b T) int) []int {
	var order []int
	for n := range l {
		order = append(order, n)
	}
	slices.SortStableFunc(order, func(a, b int) int { return compare(l[a], l[b]) })
	return order
}

func sum(numbers ...int) int {
	total := 0
	for _, n := range numbers {
		total += n
	}
	return total
}

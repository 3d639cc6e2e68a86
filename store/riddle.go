package store

import "slices"

// class returns how many of the holes, which rise, are at most as great as the
// girth.
func class(holes []int, girth int) int {
	n, _ := slices.BinarySearch(holes, girth+1)
	return n
}

// count returns the count of each class. A bulb can be in all classes from that
// of its least girth to that of its greatest one: the girth of the hole between
// two classes is in the greater one.
func count(holes []int, bulbs []Range) []Range {
	counts := make([]Range, len(holes)+1)
	for _, b := range bulbs {
		classes := span(class(holes, b.Lo), class(holes, b.Hi))
		for n := classes.Lo; n <= classes.Hi; n++ {
			counts[n].Hi++
		}
		if classes.Lo == classes.Hi {
			counts[classes.Lo].Lo++
		}
	}
	return counts
}

// pack returns the crates for so many bulbs of each class, with so many in each.
func pack(counts []Range, each int) []Range {
	var crates []Range
	for _, c := range counts {
		crates = append(crates, Range{Lo: cratesFor(c.Lo, each), Hi: cratesFor(c.Hi, each)})
	}
	return crates
}

// cratesFor returns the crates that hold the bulbs, the last one of which may
// not be full.
func cratesFor(bulbs, each int) int { return (bulbs + each - 1) / each }

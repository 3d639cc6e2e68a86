package force

import (
	"cmp"
	"slices"

	"bybloem/api"
)

// noDay stands for the day that shows how many beds there are, if there are no
// stays.
const noDay = -1

// common returns the days that all of the stays have, from the greatest In to
// the least Out, and whether there are any.
func common(first Stay, others ...Stay) (days Stay, are bool) {
	days = first
	for _, s := range others {
		days = Stay{In: max(days.In, s.In), Out: min(days.Out, s.Out)}
	}
	return days, days.In <= days.Out
}

// countOn returns how many of the stays have the day.
func countOn(l []Stay, day int) int {
	count := 0
	for _, s := range l {
		if _, has := common(s, Stay{day, day}); has {
			count++
		}
	}
	return count
}

// busiest returns the first of the days that the most stays have, or noDay.
func busiest(l []Stay) int {
	day, most := noDay, 0
	for d := range api.MaxForcing {
		if count := countOn(l, d); count > most {
			day, most = d, count
		}
	}
	return day
}

// inOrder returns the indexes of the stays, by when they begin, and then by when
// they end, so that the order of their list does not matter.
func inOrder(l []Stay) []int {
	var order []int
	for n := range l {
		order = append(order, n)
	}
	slices.SortStableFunc(order, func(a, b int) int {
		return cmp.Or(cmp.Compare(l[a].In, l[b].In), cmp.Compare(l[a].Out, l[b].Out))
	})
	return order
}

// fewest returns fewest beds for the stays. Each of them, as they begin, has the
// first bed that is free; so it has another one than there are already only if
// all of these are in use on the day on which it begins.
func fewest(l []Stay) []int {
	beds := make([]int, len(l))
	starts := map[int]int{} // for each bed the first day on which a stay can start in it
stays:
	for _, n := range inOrder(l) {
		for bed := range l {
			if starts[bed] <= l[n].In {
				beds[n], starts[bed] = bed, l[n].Out+1
				continue stays
			}
		}
	}
	return beds
}

// areBeds tells whether these are beds for the stays, with no number left out.
func areBeds(l []Stay, beds []int) bool {
	if len(beds) != len(l) || !areFromZero(beds) {
		return false
	}
	for n, s := range l {
		for i, other := range l[:n] {
			if _, are := common(s, other); are && beds[n] == beds[i] {
				return false
			}
		}
	}
	return true
}

// areFromZero tells whether the numbers are all those from 0 up to the greatest
// one.
func areFromZero(numbers []int) bool {
	for n, number := range slices.Compact(slices.Sorted(slices.Values(numbers))) {
		if n != number {
			return false
		}
	}
	return true
}

// shows tells whether the day shows that there are no fewer beds for the stays
// than these.
func shows(l []Stay, beds []int, day int) bool {
	if len(l) == 0 {
		return day == noDay
	}
	return countOn(l, day) > slices.Max(beds)
}

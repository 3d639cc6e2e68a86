package stock

import (
	"iter"
	"slices"

	"bybloem/api"
)

// thousand is what Grow and Loss are parts of: a Loss of so many is all.
const thousand = 1000

// counts has a number for each size; it stays 0 for sizes that a plan has not.
type counts [api.MaxSizes]int

// countsOf returns the numbers of a list that is not longer than counts.
func countsOf(l []int) counts {
	var all counts
	copy(all[:], l)
	return all
}

// list returns the numbers of the first sizes, in new memory.
func (c counts) list(sizes int) []int { return slices.Clone(c[:sizes]) }

// season is what happens in one year.
type season struct{ lifted, sold, lost, planted counts }

// told returns what happens, for the sizes of a plan.
func (s season) told(sizes int) Year {
	return Year{
		Lifted:  s.lifted.list(sizes),
		Sold:    s.sold.list(sizes),
		Lost:    s.lost.list(sizes),
		Planted: s.planted.list(sizes),
	}
}

// loses returns what would be lost of each size with this loss.
func (s season) loses(loss int) counts {
	var lost counts
	for size := range lost {
		rest := s.lifted[size] - s.sold[size]
		lost[size] = rest * loss / thousand
	}
	return lost
}

// course is a plan that is followed in one truth.
type course struct {
	Plan
	truth Truth
}

// start returns what the truth plants at first.
func (c course) start() counts { return countsOf(c.truth.Start) }

// years yields each year with what happens in it, if so much is planted at
// first.
func (c course) years(start counts) iter.Seq2[int, season] {
	return func(yield func(int, season) bool) {
		planted := start
		for year := range c.Years {
			s := c.season(year, planted)
			if !yield(year, s) {
				return
			}
			planted = s.planted
		}
	}
}

// season returns what happens in a year, from what is planted in it.
func (c course) season(year int, planted counts) season {
	s := season{lifted: c.lifts(year, planted)}
	for size := range c.Start {
		s.sold[size] = least(c.Sell[size], greatest(0, s.lifted[size]-c.Keep[size]))
	}
	s.lost = s.loses(c.truth.Loss[year])
	for size, room := range c.Room {
		left := s.lifted[size] - s.sold[size] - s.lost[size]
		s.planted[size] = least(left, room)
	}
	return s
}

// lifts returns what is lifted of each size. What comes from each planted size
// is rounded down by itself.
func (c course) lifts(year int, planted counts) counts {
	var lifted counts
	sizes := len(c.Start)
	for from := range sizes {
		for to := range sizes {
			lifted[to] += planted[from] * c.truth.Grow[year][from][to] / thousand
		}
	}
	return lifted
}

// reach returns the first year up to which at least the number of bulbs of the
// size are sold, or -1.
func (c course) reach(size, number int) int {
	reached, sold := -1, 0
search:
	for year, s := range c.years(c.start()) {
		sold += s.sold[size]
		if sold >= number {
			reached = year
			break search
		}
	}
	return reached
}

// sells returns what is sold of the size up to the last year, if so much is
// planted at first.
func (c course) sells(start counts, size int) int {
	sold := 0
	for _, s := range c.years(start) {
		sold += s.sold[size]
	}
	return sold
}

// least returns the least one of the numbers.
func least(first int, others ...int) int {
	for _, n := range others {
		if n < first {
			first = n
		}
	}
	return first
}

// greatest returns the greatest one of the numbers.
func greatest(first int, others ...int) int {
	for _, n := range others {
		if n > first {
			first = n
		}
	}
	return first
}

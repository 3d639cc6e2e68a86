package force

import "iter"

// never stands for the day on which a bulb flowers that does not.
const never = -1

// run is a valid program that is run, with its lot.
type run struct {
	Lot
	program []Block
}

// days yields each day of the program, with its temperature.
func (r run) days() iter.Seq2[int, int] {
	return func(yield func(day, temp int) bool) {
		day := 0
		for _, b := range r.program {
			for range b.Days {
				if !yield(day, b.Temp) {
					return
				}
				day++
			}
		}
	}
}

func (r run) cost() int {
	cost := 0
	for _, b := range r.program {
		cost += r.Prices[b.Temp] * b.Days
	}
	return cost
}

// flower returns the day on which a bulb with these needs flowers, or never.
func (r run) flower(needs [phases]int) int {
	phase, points := 0, 0
	for day, temp := range r.days() {
		points += r.Points[phase][temp]
		if points < needs[phase] {
			continue
		}
		phase, points = phase+1, 0
		if phase == phases {
			return day
		}
	}
	return never
}

// needs returns what a bulb needs that has this end of all ranges.
func (s Size) needs(e end) [phases]int {
	var needs [phases]int
	for phase := range phases {
		needs[phase] = e.of(s.Needs[phase])
	}
	return needs
}

// sizeDays returns the days of the size. A phase that begins later, or needs
// more, does not end earlier: the least needs flower first, and the greatest
// ones last, or never if any do not.
func (r run) sizeDays(s Size) Range {
	return Range{Lo: r.flower(s.needs(lesser())), Hi: r.flower(s.needs(greater()))}
}

// allDays returns the days of all sizes.
func (r run) allDays() []Range {
	var days []Range
	for _, s := range r.Sizes {
		days = append(days, r.sizeDays(s))
	}
	return days
}

// goal is a date to which a lot is to be brought.
type goal struct {
	Lot
	date Range
}

// isMetBy tells whether the program meets the date. No day is never, so that a
// size that may not flower is not held by it.
func (g goal) isMetBy(program []Block) bool {
	r := run{g.Lot, program}
	isMet := func(s Size) bool { return g.date.holds(r.sizeDays(s)) }
	return every(g.Sizes, isMet)
}

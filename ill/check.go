package ill

import "bybloem/api"

// isValid tells whether the row, which has not too many weeks and notes, is as
// the chapter describes one.
func (r Row) isValid() bool {
	return within(r.Plants, 1, api.MaxRow) &&
		every(r.Weeks, Week.isValid) &&
		within(r.Lag, 1, api.MaxFlights) &&
		within(r.Show, 0, api.MaxFlights) &&
		within(r.Old, 0, api.MaxFlights) &&
		len(r.Dug) == r.Plants &&
		every(r.Dug, r.canBeDug) &&
		every(r.Notes, r.canHave)
}

func (w Week) isValid() bool { return within(w.Flight, 0, api.MaxRow) }

// canBeDug tells whether a plant can have this week as its Dug.
func (r Row) canBeDug(week int) bool { return within(week, 0, len(r.Weeks)) }

// canHave tells whether the note can be one of the row, of which all else is
// valid.
func (r Row) canHave(n Note) bool {
	return r.hasPlant(n.Plant) &&
		within(n.Week, 1, len(r.Weeks)) &&
		r.stands(n.Plant, n.Week) &&
		int(n.Kind) < len(r.kinds())
}

func (r Row) hasPlant(plant int) bool { return within(plant, 0, r.Plants-1) }

// hasOnsets tells whether the list has an onset for each plant.
func (r Row) hasOnsets(onsets []int) bool {
	isOnset := func(onset int) bool { return within(onset, notIll, len(r.Weeks)) }
	return len(onsets) == r.Plants && every(onsets, isOnset)
}

// canBeSampled tells whether samples of the row can be asked for, for the
// number.
func (r Row) canBeSampled(number int) bool {
	return within(number, 0, api.MaxRow) && len(r.Weeks) > 0
}

// isSample tells whether the list is a sample of the row.
func (r Row) isSample(plants []int) bool {
	return every(plants, r.hasPlant) && every(plants, r.standsLast) && rises(plants)
}

// stands tells whether the plant stands in the week.
func (r Row) stands(plant, week int) bool {
	dug := r.Dug[plant]
	return dug == 0 || week <= dug
}

// standsLast tells whether the plant stands in the last week; without weeks,
// each one does.
func (r Row) standsLast(plant int) bool { return r.stands(plant, len(r.Weeks)) }

// within tells whether n is from lo to hi.
func within(n, lo, hi int) bool { return lo <= n && n <= hi }

// every tells whether a condition holds for all elements.
func every[T any](l []T, holds func(T) bool) bool {
	for _, x := range l {
		if !holds(x) {
			return false
		}
	}
	return true
}

// rises tells whether each number but the first one is greater than the one
// before it.
func rises(l []int) bool {
	for i, n := range l {
		if i > 0 && n <= l[i-1] {
			return false
		}
	}
	return true
}

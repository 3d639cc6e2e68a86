package ill

import (
	"iter"

	"bybloem/api"
)

// notIll is the onset of a plant that never became ill.
const notIll = -1

// truth has the week in which each plant became ill, or never; it has never for
// plants that the row has not.
type truth [api.MaxRow]int

// nothingIll returns the truth in which no plant became ill.
func nothingIll() truth {
	var t truth
	for plant := range t {
		t[plant] = never
	}
	return t
}

// truthOf returns the truth of a list of onsets, of one row.
func truthOf(onsets []int) truth {
	t := nothingIll()
	for plant, onset := range onsets {
		if onset != notIll {
			t[plant] = onset
		}
	}
	return t
}

// onsets returns the onsets of the plants of a row.
func (t truth) onsets(plants int) []int {
	var all []int
	for _, week := range t[:plants] {
		if week == never {
			week = notIll
		}
		all = append(all, week)
	}
	return all
}

// course is a valid row that is followed, with the weeks in which each of its
// plants can have become ill.
type course struct {
	Row
	windows [api.MaxRow]window
}

// follow returns the row with what its notes allow.
func follow(r Row) course {
	c := course{Row: r}
	for plant := range c.windows {
		c.windows[plant] = anyWeek()
	}
	return c.noted(r.Notes...)
}

// noted returns the course with what more notes allow.
func (c course) noted(notes ...Note) course {
	for _, n := range notes {
		c.windows[n.Plant] = c.windows[n.Plant].and(c.allowed(n))
	}
	return c
}

// without returns the course in which the plant never became ill.
func (c course) without(plant int) course {
	c.windows[plant] = c.windows[plant].and(notAtAll())
	return c
}

// earliestTruth returns the earliest truth, and whether it is possible: if it
// is not, none is. Each plant that becomes ill early lets others become ill no
// later than they would, so all of them do as soon as they can.
func (c course) earliestTruth() (t truth, possible bool) {
	t = nothingIll()
	for week := range len(c.Weeks) + 1 {
		for plant, w := range c.windows[:c.Plants] {
			if t[plant] == never && w.has(week) && c.canFallIll(t, plant, week) {
				t[plant] = week
			}
		}
	}
	return t, c.isPossible(t)
}

// isPossible tells whether the truth is possible.
func (c course) isPossible(t truth) bool {
	possible := true
plants:
	for plant, w := range c.windows[:c.Plants] {
		switch week := t[plant]; {
		case !w.has(week), week != never && !c.canFallIll(t, plant, week):
			possible = false
			break plants
		}
	}
	return possible
}

// canFallIll tells whether the plant can become ill in the week, if all that
// was ill before it is so as in the truth.
func (c course) canFallIll(t truth, plant, week int) bool {
	if week == 0 {
		return !c.Clean
	}
	if !c.stands(plant, week) {
		return false
	}
	for source := range c.sources(plant, week) {
		if t[source]+c.Lag <= week {
			return true
		}
	}
	return c.isReached(plant, week)
}

// sources yields the other plants from which aphids carry to the plant in the
// week, as far as they are ill for long enough.
func (c course) sources(plant, week int) iter.Seq[int] {
	flight := c.Weeks[week-1].Flight
	nearest, farthest := max(0, plant-flight), min(plant+flight, c.Plants-1)
	return func(yield func(int) bool) {
		for other := nearest; other <= farthest; other++ {
			if other != plant && c.stands(other, week) && !yield(other) {
				return
			}
		}
	}
}

// isReached tells whether aphids from elsewhere reach the plant in the week.
func (c course) isReached(plant, week int) bool {
	w := c.Weeks[week-1]
	return w.Outside && min(plant, c.Plants-1-plant) < w.Flight
}

// those yields the plants of which something holds.
func (c course) those(holds func(course, int) bool) iter.Seq[int] {
	return func(yield func(int) bool) {
		for plant := range c.Plants {
			if holds(c, plant) && !yield(plant) {
				return
			}
		}
	}
}

// cases returns the plants that stand in the last week and became ill up to the
// week, which may be before all of them.
func (c course) cases(t truth, upTo int) []int {
	var all []int
	for plant := range c.those(course.standsLast) {
		if t[plant] <= upTo {
			all = append(all, plant)
		}
	}
	return all
}

// ill returns the plants of which the number of ill plants counts.
func (c course) ill(t truth) []int { return c.cases(t, len(c.Weeks)) }

// oldCases returns the old cases.
func (c course) oldCases(t truth) []int { return c.cases(t, len(c.Weeks)-c.Old) }

package ill

import (
	"slices"

	"bybloem/api"
)

// known returns what is known of the plant, from the earliest truth of the
// course.
func (c course) known(t truth, plant int) uint8 {
	if t[plant] == never {
		return Healthy
	}
	if _, possible := c.without(plant).earliestTruth(); !possible {
		return Ill
	}
	return Open
}

// plants is a set of plants.
type plants [api.MaxRow]bool

// leastIll returns the least number of ill plants of all possible truths. Where
// a truth with fewer of them is possible, some plant that is ill in the
// earliest one can be spared, and then another one, in any order.
func (c course) leastIll() int {
	least := c.Plants
	tried := map[plants]bool{}
	var try func(spared plants, rest course)
	try = func(spared plants, rest course) {
		if tried[spared] {
			return
		}
		tried[spared] = true
		t, possible := rest.earliestTruth()
		if !possible {
			return
		}
		ill := rest.ill(t)
		least = min(least, len(ill))
		for _, plant := range ill {
			more := spared
			more[plant] = true
			try(more, rest.without(plant))
		}
	}
	try(plants{}, c)
	return least
}

// tested returns the course in which the plants were tested in the last week,
// and said no.
func (c course) tested(plants ...int) course {
	for _, plant := range plants {
		c = c.noted(Note{Plant: plant, Week: len(c.Weeks), Kind: Test, Yes: false})
	}
	return c
}

// isTelling tells whether the plant can be in a sample, and a test of it that
// says no tells more than notes do.
func (c course) isTelling(plant int) bool {
	return c.standsLast(plant) && c.tested(plant).windows[plant] != c.windows[plant]
}

// isEnough tells whether the sample is enough for the number. The earliest
// truth has the most old cases.
func (c course) isEnough(sample []int, number int) bool {
	c = c.tested(sample...)
	t, possible := c.earliestTruth()
	return !possible || len(c.oldCases(t)) <= number
}

// bestSample returns the best sample for the number. A plant of which a test
// tells nothing is in none, and all the others together are always enough.
func (c course) bestSample(number int) []int {
	telling := slices.Collect(c.those(course.isTelling))
	var sample []int
	var complete func(from, missing int) bool
	complete = func(from, missing int) bool {
		if missing == 0 {
			return c.isEnough(sample, number)
		}
		for i := from; i+missing <= len(telling); i++ {
			sample = append(sample, telling[i])
			if complete(i+1, missing-1) {
				return true
			}
			sample = sample[:len(sample)-1]
		}
		return false
	}
	for size := range telling {
		if complete(0, size) {
			return sample
		}
	}
	return telling
}

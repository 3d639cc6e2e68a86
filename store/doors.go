package store

import (
	"cmp"
	"slices"

	"bybloem/api"
)

// opened tells for each hour whether the doors are opened in it.
type opened [api.MaxHours]bool

// open returns the doors that are opened in these hours.
func open(hours []int) opened {
	var o opened
	for _, hour := range hours {
		o[hour] = true
	}
	return o
}

// list returns the hours in which the doors are opened, rising.
func (o opened) list() []int {
	var hours []int
	for hour, isOpen := range o {
		if isOpen {
			hours = append(hours, hour)
		}
	}
	return hours
}

func (o opened) without(hour int) opened {
	o[hour] = false
	return o
}

// isBetter tells whether the doors are opened less often than the others, or as
// often, and are the lesser list.
func (o opened) isBetter(others opened) bool {
	l, m := o.list(), others.list()
	return cmp.Or(cmp.Compare(len(l), len(m)), slices.Compare(l, m)) < 0
}

// worst returns the store followed through its greatest levels, for each one who
// can be bad.
func (s Store) worst() []followed {
	var worst []followed
	for _, bad := range s.who() {
		worst = append(worst, s.at(greater(), bad))
	}
	return worst
}

// areSafe tells whether no level of the stores that are followed is above their
// limits with these doors.
func areSafe(doors opened, worst ...followed) bool {
	isSafe := true
search:
	for _, f := range worst {
		for _, level := range f.air(doors) {
			if level > f.Limit {
				isSafe = false
				break search
			}
		}
	}
	return isSafe
}

// best returns the best doors, and whether any are safe. Doors that are safe
// still are with one hour more, so that all of them are found by leaving out one
// hour after the other, and none behind doors that are not safe.
func (s Store) best() (best opened, found bool) {
	worst, tried := s.worst(), map[opened]bool{}
	var try func(doors opened)
	try = func(doors opened) {
		if tried[doors] {
			return
		}
		tried[doors] = true
		if !areSafe(doors, worst...) {
			return
		}
		if !found || doors.isBetter(best) {
			best, found = doors, true
		}
		for _, hour := range doors.list() {
			try(doors.without(hour))
		}
	}
	try(open(s.Times))
	return best, found
}

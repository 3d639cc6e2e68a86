package clone

import (
	"cmp"
	"maps"
	"slices"

	"bybloem/api"
)

// clones is a set of clones. It is not changed once it is made, so that stocks
// may share it.
type clones map[Clone]bool

// union returns all clones of the sets.
func union(sets ...clones) clones {
	all := clones{}
	for _, set := range sets {
		maps.Copy(all, set)
	}
	return all
}

// sure returns what a stock surely has that began with some of these clones: of
// several ones, any may be missing.
func (s clones) sure() clones {
	if len(s) == 1 {
		return s
	}
	return nil
}

// sports returns the sport with this number of each clone that can have one.
func (s clones) sports(what int) clones {
	all := clones{}
	for c := range s {
		if sport, ok := c.sport(what); ok {
			all[sport] = true
		}
	}
	return all
}

// inOrder returns the clones in their order, in new memory.
func (s clones) inOrder() []Clone { return inOrder(maps.Keys(s), compareClones) }

// sports returns the places of the sports of a clone.
func (c Clone) sports() [3]int { return [3]int{c.A, c.B, c.C} }

// sport returns the sport of a clone, if it has a place for one more.
func (c Clone) sport(what int) (Clone, bool) {
	places := c.sports()
	free := slices.Index(places[:], 0)
	if free < 0 {
		return Clone{}, false
	}
	places[free] = what
	return Clone{c.Seedling, places[0], places[1], places[2]}, true
}

// isValid tells whether a clone is one: no sport comes behind a place that is
// free.
func (c Clone) isValid() bool {
	last := api.MaxSport
	for _, what := range c.sports() {
		if !within(what, 0, api.MaxSport) || last == 0 && what != 0 {
			return false
		}
		last = what
	}
	return within(c.Seedling, 1, api.MaxNumber)
}

// compareClones tells which of two clones comes first.
func compareClones(a, b Clone) int {
	left, right := a.sports(), b.sports()
	return cmp.Or(cmp.Compare(a.Seedling, b.Seedling), slices.Compare(left[:], right[:]))
}

package bed

import "bybloem/api"

// allows tells whether the plan, which has a use for each bed in each year, is
// allowed.
func (f Farm) allows(plan [][]int) bool {
	for year, uses := range plan {
		if !(inYear{f, year}).isAllowed(uses) {
			return false
		}
	}
	return true
}

// restOf returns the rest of the plan.
func (f Farm) restOf(plan [][]int) int {
	least := api.MaxRest
	for bed, past := range f.Past {
		h := nothingStood()
		for _, use := range past {
			h = h.with(use)
		}
		for _, uses := range plan {
			least = min(least, h.restBefore(uses[bed]))
			h = h.with(uses[bed])
		}
	}
	return least
}

// nowhere is the year in which a crop stood that would not come back.
const nowhere = -1

// history is what happened on a bed: how many of its years are told, and in
// which of them each crop stood there last, unless all was flooded since.
type history struct {
	years int
	stood [api.MaxCrops]int
}

func nothingStood() history { return history{}.flooded() }

func (h history) flooded() history {
	for crop := range h.stood {
		h.stood[crop] = nowhere
	}
	return h
}

// restBefore returns the rest of the crop that comes back if this use is next,
// or MaxRest if none does.
func (h history) restBefore(use int) int {
	if use < 0 || h.stood[use] == nowhere {
		return api.MaxRest
	}
	return h.years - h.stood[use] - 1
}

// with returns the history with one year more, with this use.
func (h history) with(use int) history {
	switch use {
	case Idle:
	case Flood:
		h = h.flooded()
	default:
		h.stood[use] = h.years
	}
	h.years++
	return h
}

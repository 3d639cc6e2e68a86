package bed

import (
	"slices"

	"bybloem/api"
)

// planned is a valid farm, with the uses of its beds that are allowed in each
// year.
type planned struct {
	Farm
	rows [][][]int
}

// survey returns the farm with all that is allowed on it.
func survey(f Farm) planned {
	p := planned{Farm: f}
	for year := range f.Needs {
		p.rows = append(p.rows, slices.Collect(f.rows(inYear{f, year}.isAllowed)))
	}
	return p
}

// with returns the farm on which the bed has just this use in the year.
func (p planned) with(year, bed, use int) planned {
	isOther := func(uses []int) bool { return uses[bed] != use }
	p.rows = slices.Clone(p.rows)
	p.rows[year] = slices.DeleteFunc(slices.Clone(p.rows[year]), isOther)
	return p
}

// flooded returns the farm on which as many beds are flooded as can be. If there
// is a plan for it at all, there is one with that: a bed that is flooded, and
// not left idle, lets no crop wait for longer.
func (p planned) flooded() planned {
	var rows [][][]int
	for _, all := range p.rows {
		rows = append(rows, mostFlooded(all))
	}
	p.rows = rows
	return p
}

// mostFlooded returns those rows that have the most flooded beds.
func mostFlooded(rows [][]int) [][]int {
	most := 0
	for _, uses := range rows {
		most = max(most, count(uses, Flood))
	}
	isLess := func(uses []int) bool { return count(uses, Flood) < most }
	return slices.DeleteFunc(slices.Clone(rows), isLess)
}

// waits has how many years each crop has to wait until it may stand on a bed.
type waits [api.MaxCrops]int

// after returns the waits behind a year with this use, for a rest.
func (w waits) after(use, rest int) waits {
	for crop, wait := range w {
		switch use {
		case crop:
			w[crop] = rest
		case Flood:
			w[crop] = 0
		default:
			w[crop] = max(wait-1, 0)
		}
	}
	return w
}

// atMost returns the waits, with the number in place of greater ones.
func (w waits) atMost(years int) waits {
	for crop, wait := range w {
		w[crop] = min(wait, years)
	}
	return w
}

// state is a year, and what counts of all that was before it.
type state struct {
	year int
	beds [api.MaxBeds]waits
}

// begin returns the state with which the plan begins.
func (p planned) begin(rest int) state {
	var s state
	for bed, past := range p.Past {
		for _, use := range past {
			s.beds[bed] = s.beds[bed].after(use, rest)
		}
	}
	return s
}

// next returns the state behind a year with these uses. How long a crop would
// have to wait behind the last year does not count.
func (p planned) next(s state, uses []int, rest int) state {
	s.year++
	for bed, use := range uses {
		s.beds[bed] = s.beds[bed].after(use, rest).atMost(len(p.Needs) - s.year)
	}
	return s
}

// lets tells whether no crop of these uses still has to wait.
func (s state) lets(uses []int) bool {
	for bed, use := range uses {
		if use >= 0 && s.beds[bed][use] > 0 {
			return false
		}
	}
	return true
}

// longest returns an allowed plan with at least this rest for as many years,
// from the first one on, as there is one for.
func (p planned) longest(rest int) [][]int {
	p = p.flooded()
	var plan, best [][]int
	tried := map[state]bool{}
	var extend func(s state) bool // true once no plan can be longer
	extend = func(s state) bool {
		if len(plan) > len(best) {
			best = slices.Clone(plan)
		}
		if s.year == len(p.rows) || len(p.rows[s.year]) == 0 {
			return true
		}
		if tried[s] {
			return false
		}
		tried[s] = true
		for _, uses := range p.rows[s.year] {
			if !s.lets(uses) {
				continue
			}
			plan = append(plan, uses)
			if extend(p.next(s, uses, rest)) {
				return true
			}
			plan = plan[:len(plan)-1]
		}
		return false
	}
	extend(p.begin(rest))
	return best
}

// best returns an allowed plan with the most rest, this rest, and whether there
// is such a plan.
func (p planned) best() (plan [][]int, rest int, found bool) {
	for asked := range api.MaxRest + 1 {
		better := p.longest(asked)
		if len(better) < len(p.Needs) {
			break
		}
		plan, rest, found = better, asked, true
	}
	return plan, rest, found
}

// possible returns the uses of the bed in the year, rising, that an allowed plan
// with at least this rest has.
func (p planned) possible(rest, year, bed int) []int {
	var uses []int
	for use := range p.uses() {
		if len(p.with(year, bed, use).longest(rest)) == len(p.Needs) {
			uses = append(uses, use)
		}
	}
	return uses
}

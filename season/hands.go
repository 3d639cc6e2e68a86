package season

import (
	"math"
	"slices"

	"bybloem/api"
)

// never is the week in which a field that is not due is headed.
const never = -1

// headed returns the weeks in which the kind can be headed, if it opens in the
// week, or nothing if its fields are not due.
func (y Year) headed(kind, week int) Range {
	weeks := Range{Lo: week + 1, Hi: week + y.Kinds[kind].Head}
	if !y.hasWeek(weeks.Hi) {
		return nothing()
	}
	return common(weeks)
}

// due returns the opening in which no kind opens whose fields would not be due.
func (y Year) due(o opening) opening {
	d := y.closed()
	for kind := range y.Kinds {
		if y.headed(kind, o[kind]) != nothing() {
			d[kind] = o[kind]
		}
	}
	return d
}

// rows has how many rows are headed in each week.
type rows [api.MaxCalendar]int

// handsFor returns the hands of the weeks, and whether they are a heading if the
// kinds open so.
func (y Year) handsFor(fields []Field, o opening, weeks []int) (hands int, isHeading bool) {
	if len(weeks) != len(fields) {
		return 0, false
	}
	var r rows
	for n, f := range fields {
		week, can := weeks[n], y.headed(f.Kind, o[f.Kind])
		switch {
		case can == nothing() && week == never:
		case can.has(week):
			r[week] += f.Rows
		default:
			return 0, false
		}
	}
	return slices.Max(r[:]), true
}

// head returns a heading with the fewest hands, and these, if the kinds open so.
func (y Year) head(fields []Field, o opening) (weeks []int, fewest int) {
	fewest = math.MaxInt
	given := make([]int, len(fields))
	var r rows
	var give func(n, hands int)
	give = func(n, hands int) {
		if n == len(fields) {
			weeks, fewest = slices.Clone(given), hands
			return
		}
		f := fields[n]
		can := y.headed(f.Kind, o[f.Kind])
		if can == nothing() {
			given[n] = never
			give(n+1, hands)
		}
		for week := can.Lo; week <= can.Hi; week++ {
			given[n] = week
			r[week] += f.Rows
			if more := max(hands, r[week]); more < fewest {
				give(n+1, more)
			}
			r[week] -= f.Rows
		}
	}
	give(0, y.most(fields, o))
	return weeks, fewest
}

// most returns the greatest number of rows of a field that is due: no heading
// has fewer hands, so that none has to be looked for once there is one with
// these.
func (y Year) most(fields []Field, o opening) int {
	most := 0
	for _, f := range fields {
		if y.headed(f.Kind, o[f.Kind]) != nothing() {
			most = max(most, f.Rows)
		}
	}
	return most
}

// enough returns the greatest number that is the fewest hands for some truth.
func (s seen) enough(fields []Field) int {
	var kinds []int
	for _, f := range fields {
		kinds = append(kinds, f.Kind)
	}
	most, tried := 0, map[opening]bool{}
	for o := range s.openings(kinds...) {
		o = s.due(o)
		if tried[o] {
			continue
		}
		tried[o] = true
		_, hands := s.head(fields, o)
		most = max(most, hands)
	}
	return most
}

package season

import (
	"slices"

	"bybloem/api"
)

// greatestSum is the sum that none exceeds.
const greatestSum = api.MaxCalendar * api.MaxWarmth

// seen is a valid year that is looked at, with the ranges of the sums that are
// left of it.
type seen struct {
	Year
	left []Range
}

// in returns the year of which the truth is known.
func (y Year) in(truth []int) Year {
	y.Weeks = nil
	for _, warmth := range truth {
		y.Weeks = append(y.Weeks, Range{warmth, warmth})
	}
	return y
}

// look returns what the sights leave of the year, or ErrFail if no truth agrees
// with them. No sum is less than the one before it, so that a sight tells of the
// sum up to its week alone: each sum that is left is one of a truth.
func look(y Year, sights []Sight) (seen, api.Errno) {
	s := seen{Year: y}
	var sums Range // up to the week before
weeks:
	for week, warmth := range y.Weeks {
		sums = sums.plus(warmth)
		for _, x := range sights {
			if x.Week == week {
				sums = common(sums, y.told(x))
			}
			if sums == nothing() {
				break weeks
			}
		}
		s.left = append(s.left, sums)
	}
	if sums == nothing() {
		return seen{}, api.ErrFail
	}
	for week := len(s.left) - 1; week > 0; week-- {
		s.left[week-1] = common(s.left[week-1], s.left[week].minus(y.Weeks[week]))
	}
	return s, api.OK
}

// told returns the sums up to the week of the sight in which it is so.
func (y Year) told(x Sight) Range {
	bloom := y.Kinds[x.Kind].Bloom
	if x.Open {
		return Range{bloom, greatestSum}
	}
	return Range{0, bloom - 1}
}

// event is something that happens to each kind in the first week up to which the
// sum is great enough for it.
type event struct {
	sum func(k Kind) int
}

func opened() event { return event{Kind.opensBy} }

func ripe() event { return event{Kind.ripensBy} }

func (k Kind) opensBy() int { return k.Bloom }

func (k Kind) ripensBy() int { return k.Bloom + k.Ripe }

// need is the least sum that is great enough for something.
type need int

func (n need) mayBeMet(sums Range) bool { return int(n) <= sums.Hi }

func (n need) isMet(sums Range) bool { return int(n) <= sums.Lo }

// span returns the range of the week in which the event happens to the kind.
func (s seen) span(e event, k Kind) Range {
	n := need(e.sum(k))
	return Range{Lo: s.first(n.mayBeMet), Hi: s.first(n.isMet)}
}

// first returns the first week up to which the sums are so, or the number of
// weeks if there is none.
func (s seen) first(isSo func(sums Range) bool) int {
	if week := slices.IndexFunc(s.left, isSo); week >= 0 {
		return week
	}
	return len(s.Weeks)
}

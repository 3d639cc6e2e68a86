package right

import (
	"cmp"
	"slices"

	"bybloem/api"
)

// notAsked stands for the age of papers that a visit does not ask for.
const notAsked = -1

func (t Trip) check() api.Errno {
	return check(t,
		need[Trip]{func(t Trip) bool { return len(t.Visits) <= api.MaxVisits && len(t.Prices) <= api.MaxKindsOf }, api.ErrLimit},
		need[Trip]{Trip.isValid, api.ErrArg},
	)
}

func (t Trip) isValid() bool {
	return isDate(t.First) && isDate(t.Last) && upTo(api.MaxWindow).has(t.Last-t.First) &&
		len(t.Prices) > 0 && every(t.Prices, upTo(api.MaxCharge).has) &&
		t.hasKinds(t.Waits) && every(t.Waits, isDate) &&
		every(t.Visits, t.hasVisit)
}

// hasKinds tells whether the list has a number for each kind.
func (t Trip) hasKinds(l []int) bool { return len(l) == len(t.Prices) }

func (t Trip) hasVisit(v Visit) bool {
	return upTo(api.MaxAfter).has(v.After) &&
		t.hasKinds(v.Ages) && every(v.Ages, span{notAsked, api.MaxAfter}.has)
}

// start is a trip that begins on a day.
type start struct {
	Trip
	day int
}

func (s start) check() api.Errno {
	if e := s.Trip.check(); e != api.OK {
		return e
	}
	return check(s, need[start]{start.isPossible, api.ErrRange})
}

// isPossible tells whether the day is one on which the trip may begin.
func (s start) isPossible() bool { return span{s.First, s.Last}.has(s.day) }

func (s start) hasKind(kind int) bool { return upTo(len(s.Prices) - 1).has(kind) }

// call is a visit that asks for a kind of papers: its index, its day, and the days
// on which a paper that serves it is issued. There is none if the last one of these
// is before the first one.
type call struct {
	visit, day int
	issue      span
}

func (c call) isServed(paper int) bool { return c.issue.has(paper) }

// compare tells which of two calls comes first in time.
func (c call) compare(other call) int { return cmp.Compare(c.day, other.day) }

// calls returns the visits that ask for the kind, by rising indexes.
func (s start) calls(kind int) []call {
	var calls []call
	for n, v := range s.Visits {
		if age := v.Ages[kind]; age != notAsked {
			day := s.day + v.After
			calls = append(calls, call{n, day, span{max(day-age, s.Waits[kind]), day}})
		}
	}
	return calls
}

// firsts returns the visits on the days of which the fewest papers of the kind are
// issued, in time, and whether these are enough. The paper for the first visit is
// issued as late as it can be, so that it serves as many of the later ones as any.
func (s start) firsts(kind int) (firsts []call, are bool) {
	inTime := s.calls(kind)
	slices.SortStableFunc(inTime, call.compare)
	for _, c := range inTime {
		if slices.ContainsFunc(daysOf(firsts), c.isServed) {
			continue
		}
		if !c.isServed(c.day) {
			return nil, false
		}
		firsts = append(firsts, c)
	}
	return firsts, true
}

func daysOf(l []call) []int {
	var days []int
	for _, c := range l {
		days = append(days, c.day)
	}
	return days
}

// papers returns for each kind the days on which the fewest papers are issued, the
// price of the day, and whether the trip can begin on it.
func (s start) papers() (papers [][]int, price int, can bool) {
	var prices []int
	for kind, each := range s.Prices {
		firsts, are := s.firsts(kind)
		if !are {
			return nil, 0, false
		}
		papers = append(papers, daysOf(firsts))
		prices = append(prices, each*len(firsts))
	}
	return papers, sum(prices...), true
}

// apart returns visits that stand apart for the kind, as many as its fewest papers,
// and whether any papers are enough. Each paper that serves one of the visits for
// which they are issued is too old for the next one.
func (s start) apart(kind int) (visits []int, are bool) {
	firsts, are := s.firsts(kind)
	for _, c := range s.calls(kind) {
		if slices.Contains(firsts, c) {
			visits = append(visits, c.visit)
		}
	}
	return visits, are
}

// cheapest returns the first day of the least price, this price, and whether there
// is any on which the trip can begin.
func (t Trip) cheapest() (day, price int, can bool) {
	for d := t.First; d <= t.Last; d++ {
		_, cost, is := start{t, d}.papers()
		if is && (!can || cost < price) {
			day, price, can = d, cost, true
		}
	}
	return day, price, can
}

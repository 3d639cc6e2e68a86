package stock

import "bybloem/api"

// isValid tells whether the plan, which has not too many sizes, is as the
// chapter describes one.
func (p Plan) isValid() bool {
	sizes := len(p.Start)
	isCount, isGrowth := upTo(api.MaxPlanted), rangeUpTo(api.MaxGrow)
	isRow := func(row []Range) bool { return fits(row, sizes, isGrowth) }
	isLoss := rangeUpTo(thousand)
	return sizes >= 1 &&
		fits(p.Start, sizes, rangeUpTo(api.MaxPlanted)) &&
		fits(p.Room, sizes, isCount) &&
		paired(p.Start, p.Room, Range.isBelow) &&
		fits(p.Grow, sizes, isRow) &&
		fits(p.Sell, sizes, isCount) &&
		fits(p.Keep, sizes, isCount) &&
		isLoss(p.Loss) &&
		within(p.Years, 0, api.MaxSeasons)
}

// isOf tells whether the truth has just one number of each range of the plan.
func (t Truth) isOf(p Plan) bool {
	isRow := func(ranges []Range, row []int) bool { return paired(ranges, row, Range.has) }
	isYear := func(rows [][]int) bool { return paired(p.Grow, rows, isRow) }
	return paired(p.Start, t.Start, Range.has) &&
		fits(t.Grow, p.Years, isYear) &&
		fits(t.Loss, p.Years, p.Loss.has)
}

// checkAsked returns the error of a plan, and of sizes and a number asked of it.
func checkAsked(p Plan, number int, sizes ...int) api.Errno {
	if e := CheckPlan(p); e != api.OK {
		return e
	}
	if !every(sizes, p.hasSize) || !within(number, 0, api.MaxAsked) {
		return api.ErrRange
	}
	return api.OK
}

// checkOffer returns the error of a plan, of crates that are offered for it, and
// of a size and a number asked of it.
func checkOffer(p Plan, crates []Crate, size, number int) api.Errno {
	if e := CheckPlan(p); e != api.OK {
		return e
	}
	if len(crates) > api.MaxCrates {
		return api.ErrLimit
	}
	if !every(crates, p.isOffered) {
		return api.ErrArg
	}
	return checkAsked(p, number, size)
}

// hasSize tells whether the plan has the size.
func (p Plan) hasSize(size int) bool { return within(size, 0, len(p.Start)-1) }

// isOffered tells whether the crates are as the chapter describes them.
func (p Plan) isOffered(c Crate) bool {
	return p.hasSize(c.Size) &&
		within(c.Bulbs, 1, api.MaxPlanted) &&
		within(c.Price, 0, api.MaxPrice) &&
		within(c.Most, 0, api.MaxMost)
}

// canBe tells whether so many of the crates can be bought.
func (c Crate) canBe(bought int) bool { return within(bought, 0, c.Most) }

// has tells whether the number is one of the range.
func (r Range) has(n int) bool { return within(n, r.Lo, r.Hi) }

// isBelow tells whether the range has no number above most.
func (r Range) isBelow(most int) bool { return r.Hi <= most }

// upTo returns the question whether a number is from 0 to most.
func upTo(most int) func(int) bool {
	return func(n int) bool { return within(n, 0, most) }
}

// rangeUpTo returns the question whether a range is one, from 0 to most.
func rangeUpTo(most int) func(Range) bool {
	return func(r Range) bool { return 0 <= r.Lo && r.Lo <= r.Hi && r.isBelow(most) }
}

// within tells whether n is from lo to hi.
func within(n, lo, hi int) bool { return lo <= n && n <= hi }

// every tells whether a condition holds for all elements.
func every[T any](l []T, holds func(T) bool) bool {
	for _, x := range l {
		if !holds(x) {
			return false
		}
	}
	return true
}

// fits tells whether a list has so many elements, and a condition holds for all.
func fits[T any](l []T, length int, holds func(T) bool) bool {
	return len(l) == length && every(l, holds)
}

// paired tells whether two lists are of one length, and a condition holds for
// all elements with the same index.
func paired[A, B any](a []A, b []B, holds func(A, B) bool) bool {
	if len(a) != len(b) {
		return false
	}
	for i, x := range a {
		if !holds(x, b[i]) {
			return false
		}
	}
	return true
}

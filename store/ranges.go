package store

// nothing returns the bounds that have no number. They are always these, so that
// others can be compared with them.
func nothing() Range { return Range{Lo: 1, Hi: 0} }

func (r Range) has(n int) bool { return r.Lo <= n && n <= r.Hi }

// isUpTo tells whether it is a range with ends from 0 to the most.
func (r Range) isUpTo(most int) bool { return 0 <= r.Lo && r.Lo <= r.Hi && r.Hi <= most }

func (r Range) lesser() int { return r.Lo }

func (r Range) greater() int { return r.Hi }

// common returns the range of what is in both ranges.
func (r Range) common(s Range) Range {
	c := Range{Lo: max(r.Lo, s.Lo), Hi: min(r.Hi, s.Hi)}
	if c.Lo > c.Hi {
		return nothing()
	}
	return c
}

// span returns the range from the least to the greatest of the numbers.
func span(first int, others ...int) Range {
	r := Range{first, first}
	for _, n := range others {
		r = Range{Lo: min(r.Lo, n), Hi: max(r.Hi, n)}
	}
	return r
}

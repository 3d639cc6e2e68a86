package season

// nothing returns the bounds that have no number. They are always these, so that
// others can be compared with them.
func nothing() Range { return Range{Lo: 1, Hi: 0} }

func (r Range) has(n int) bool { return r.Lo <= n && n <= r.Hi }

// plus returns the range of the sums of a number of each of the two ranges.
func (r Range) plus(s Range) Range { return Range{Lo: r.Lo + s.Lo, Hi: r.Hi + s.Hi} }

// minus returns the range of the numbers to which one of the other range can be
// added, so that the sum is in this one.
func (r Range) minus(s Range) Range { return Range{Lo: r.Lo - s.Hi, Hi: r.Hi - s.Lo} }

// common returns the range of what is in all of the ranges.
func common(first Range, others ...Range) Range {
	for _, r := range others {
		first.Lo = max(first.Lo, r.Lo)
		first.Hi = min(first.Hi, r.Hi)
	}
	if first.Lo > first.Hi {
		return nothing()
	}
	return first
}

package force

import "bybloem/api"

func (r Range) has(n int) bool { return r.Lo <= n && n <= r.Hi }

// holds tells whether the other one is a range, and all of it is in this one.
func (r Range) holds(s Range) bool { return s.Lo <= s.Hi && r.has(s.Lo) && r.has(s.Hi) }

func (r Range) isDate() bool { return Range{0, api.MaxForcing - 1}.holds(r) }

func (r Range) lesser() int { return r.Lo }

func (r Range) greater() int { return r.Hi }

// end is the end that is taken of each range.
type end struct {
	of func(r Range) int
}

func lesser() end { return end{Range.lesser} }

func greater() end { return end{Range.greater} }

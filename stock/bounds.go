package stock

// ends tells which end of each range of a plan is taken.
type ends struct {
	start, grow func(Range) int
	loss        func(Range) int // in each year, for all counts but that of what is lost in it
	lost        func(Range) int // in the year itself, for what is lost in it
}

// lesserEnds returns the ends with which the least is lifted, sold, planted and
// lost. More is planted again if less is lost, so that what is lost is least if
// all years but its own lose most.
func lesserEnds() ends {
	return ends{start: Range.low, grow: Range.low, loss: Range.high, lost: Range.low}
}

// greaterEnds returns the ends with which the most is lifted, sold, planted and
// lost.
func greaterEnds() ends {
	return ends{start: Range.high, grow: Range.high, loss: Range.low, lost: Range.high}
}

func (r Range) low() int { return r.Lo }

func (r Range) high() int { return r.Hi }

// taken returns an end of each range.
func taken(end func(Range) int, ranges []Range) []int {
	var numbers []int
	for _, r := range ranges {
		numbers = append(numbers, end(r))
	}
	return numbers
}

// follow returns the plan, followed in the truth of these ends.
func (p Plan) follow(e ends) course {
	t := Truth{Start: taken(e.start, p.Start)}
	var rows [][]int
	for _, row := range p.Grow {
		rows = append(rows, taken(e.grow, row))
	}
	for range p.Years {
		t.Grow = append(t.Grow, rows)
		t.Loss = append(t.Loss, e.loss(p.Loss))
	}
	return course{Plan: p, truth: t}
}

// seasons returns what happens in each year with these ends.
func (p Plan) seasons(e ends) []season {
	var all []season
	c := p.follow(e)
	for _, s := range c.years(c.start()) {
		s.lost = s.loses(e.lost(p.Loss))
		all = append(all, s)
	}
	return all
}

// bounds returns the bounds of each year.
func (p Plan) bounds() []Bounds {
	var all []Bounds
	sizes := len(p.Start)
	lesser, greater := p.seasons(lesserEnds()), p.seasons(greaterEnds())
	for year, low := range lesser {
		high := greater[year]
		all = append(all, Bounds{
			Lifted:  ranges(sizes, low.lifted, high.lifted),
			Sold:    ranges(sizes, low.sold, high.sold),
			Lost:    ranges(sizes, low.lost, high.lost),
			Planted: ranges(sizes, low.planted, high.planted),
		})
	}
	return all
}

// ranges returns the range of each size.
func ranges(sizes int, low, high counts) []Range {
	var all []Range
	for size := range sizes {
		all = append(all, Range{Lo: low[size], Hi: high[size]})
	}
	return all
}

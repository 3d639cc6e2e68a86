package season

import (
	"iter"
	"slices"

	"bybloem/api"
)

// opening is a truth, as far as kinds open: the week of each of them, or the
// number of weeks for one that does not open or is not asked for.
type opening [api.MaxKinds]int

// toOpening returns the weeks as an opening.
func toOpening(weeks []int) opening {
	var o opening
	copy(o[:], weeks)
	return o
}

// closed returns the opening in which nothing opens.
func (y Year) closed() opening {
	return toOpening(slices.Repeat([]int{len(y.Weeks)}, api.MaxKinds))
}

// band is a range of sums, and the kinds that have opened by all of them, and by
// none of the lower ones.
type band struct {
	Range
	kinds []int
}

// bands returns the sums from the lowest to the highest, divided where one of
// the kinds opens.
func (y Year) bands(kinds ...int) []band {
	blooms := []int{0}
	for _, kind := range kinds {
		blooms = append(blooms, y.Kinds[kind].Bloom)
	}
	slices.Sort(blooms)
	blooms = slices.Compact(blooms)
	var bands []band
	for n, bloom := range blooms {
		b := band{Range: Range{bloom, greatestSum}}
		if n+1 < len(blooms) {
			b.Hi = blooms[n+1] - 1
		}
		for _, kind := range kinds {
			if y.Kinds[kind].Bloom <= bloom {
				b.kinds = append(b.kinds, kind)
			}
		}
		bands = append(bands, b)
	}
	return bands
}

// openings yields each opening of the kinds once that is one of a truth that
// agrees with what was seen.
func (s seen) openings(kinds ...int) iter.Seq[opening] {
	return func(yield func(opening) bool) {
		bands := s.bands(kinds...)
		var follow func(week int, sums Range, o opening) bool // false once no more are wanted
		follow = func(week int, sums Range, o opening) bool {
			if week == len(s.Weeks) {
				return yield(o)
			}
			sums = common(sums.plus(s.Weeks[week]), s.left[week])
			for _, b := range bands {
				part := common(sums, b.Range)
				if part != nothing() && !follow(week+1, part, o.with(week, b.kinds)) {
					return false
				}
			}
			return true
		}
		follow(0, Range{}, s.closed())
	}
}

// with returns the opening in which these kinds have opened up to the week, in
// it if not before.
func (o opening) with(week int, kinds []int) opening {
	for _, kind := range kinds {
		o[kind] = min(o[kind], week)
	}
	return o
}

// flowers returns the weeks in which the kind may flower, and those in which it
// surely flowers.
func (s seen) flowers(kind int) (may, surely []int) {
	var times [api.MaxCalendar]int
	all := 0
	for o := range s.openings(kind) {
		all++
		for week := o[kind]; week < min(o[kind]+s.Kinds[kind].Weeks, len(s.Weeks)); week++ {
			times[week]++
		}
	}
	for week, n := range times {
		if n > 0 {
			may = append(may, week)
		}
		if n == all {
			surely = append(surely, week)
		}
	}
	return may, surely
}

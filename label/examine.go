package label

import (
	"slices"

	"bybloem/api"
)

// examined is a valid lot that can be, with the range of each kind in each of
// its parts.
type examined struct {
	Lot
	ranges [api.MaxParts][api.MaxKinds]Range
}

// examine returns the lot, examined, or the error of one that is not valid, of
// what is asked of it and is not in range, or of a lot that cannot be.
func examine(l Lot, inRange bool) (examined, api.Errno) {
	if e := CheckLot(l); e != api.OK {
		return examined{}, e
	}
	if !inRange {
		return examined{}, api.ErrRange
	}
	x := examined{Lot: l}
	for part := range l.Parts {
		ranges, canBe := l.rangesIn(part)
		if !canBe {
			return examined{}, api.ErrFail
		}
		x.ranges[part] = ranges
	}
	return x, api.OK
}

// rangesIn returns the range of each kind in the part, and whether the part has
// a truth.
func (l Lot) rangesIn(part int) (ranges [api.MaxKinds]Range, canBe bool) {
	for m := range l.mixes(part) {
		for kind, n := range m {
			if !canBe {
				ranges[kind] = single(n)
			}
			ranges[kind] = ranges[kind].with(n)
		}
		canBe = true
	}
	return ranges, canBe
}

// rangeOf returns the range of the kind in the lot. Parts do not depend on each
// other, so that its ends are the sums of theirs.
func (x examined) rangeOf(kind int) Range {
	return Range{Lo: x.sumOf(kind, Range.least), Hi: x.sumOf(kind, Range.most)}
}

// sumOf returns the sum of an end of the ranges of the kind.
func (x examined) sumOf(kind int, end func(Range) int) int {
	var ends []int
	for part := range x.Parts {
		ends = append(ends, end(x.ranges[part][kind]))
	}
	return sum(ends...)
}

// plants returns the number of all plants of the lot.
func (x examined) plants() int {
	var all []int
	for _, p := range x.Parts {
		all = append(all, p.Plants)
	}
	return sum(all...)
}

// find returns a truth with this number of the kind, and whether there is one.
// Nothing is reckoned with a number outside of the range, however great it is.
func (x examined) find(kind, many int) (truth [][]int, found bool) {
	if !x.rangeOf(kind).has(many) {
		return nil, false
	}
	examples := x.examples(kind)
	var chosen [api.MaxParts]mix
	var choose func(part, missing int) bool
	choose = func(part, missing int) bool {
		if part == len(x.Parts) {
			return missing == 0
		}
		for n := range x.Parts[part].Plants + 1 {
			example, possible := examples[part][n]
			if !possible {
				continue
			}
			chosen[part] = example
			if choose(part+1, missing-n) {
				return true
			}
		}
		return false
	}
	if !choose(0, many) {
		return nil, false
	}
	for part := range x.Parts {
		truth = append(truth, slices.Clone(chosen[part][:len(x.Looks)]))
	}
	return truth, true
}

// examples returns, for each part, a truth of it for each possible number of
// the kind.
func (x examined) examples(kind int) (examples [api.MaxParts]map[int]mix) {
	for part := range x.Parts {
		examples[part] = map[int]mix{}
		for m := range x.mixes(part) {
			examples[part][m[kind]] = m
		}
	}
	return examples
}

package force

import "bybloem/api"

// phases is how many phases there are: to form, to chill and to grow.
const phases = 3

// isValid tells whether the lot, which has not too many temperatures and sizes,
// is as the chapter describes one.
func (l Lot) isValid() bool {
	return len(l.Prices) > 0 && every(l.Prices, Range{0, api.MaxHeating}.has) &&
		every(l.Points[:], l.isPoints) &&
		len(l.Sizes) > 0 && every(l.Sizes, Size.isValid)
}

// isPoints tells whether these are the points of a phase.
func (l Lot) isPoints(points []int) bool {
	return len(points) == len(l.Prices) && every(points, Range{0, api.MaxPoints}.has)
}

func (s Size) isValid() bool { return every(s.Needs[:], Range{1, api.MaxNeed}.holds) }

// hasBulb tells whether there is the size, and a bulb of it can have these needs.
func (l Lot) hasBulb(size int, needs [phases]int) bool {
	if size < 0 || size >= len(l.Sizes) {
		return false
	}
	for phase, n := range needs {
		if !l.Sizes[size].Needs[phase].has(n) {
			return false
		}
	}
	return true
}

// checkProgram returns the error of the lot, or else of the program, or OK.
func (l Lot) checkProgram(program []Block) api.Errno {
	if e := CheckLot(l); e != api.OK {
		return e
	}
	if len(program) > api.MaxBlocks {
		return api.ErrLimit
	}
	if !l.hasProgram(program) {
		return api.ErrArg
	}
	return api.OK
}

// hasProgram tells whether these blocks, which are not too many, are a program of
// the lot.
func (l Lot) hasProgram(program []Block) bool {
	return len(program) > 0 && every(program, l.hasBlock) && length(program) <= api.MaxForcing
}

// hasBlock tells whether a program of the lot can have the block. Blocks that are
// too long by themselves are refused, so that the days of several fit a number.
func (l Lot) hasBlock(b Block) bool {
	return 0 <= b.Temp && b.Temp < len(l.Prices) && Range{1, api.MaxForcing}.has(b.Days)
}

// length returns how many days the blocks last together.
func length(program []Block) int {
	days := 0
	for _, b := range program {
		days += b.Days
	}
	return days
}

// checkStays returns the error of the stays, or OK.
func checkStays(l []Stay) api.Errno {
	if len(l) > api.MaxStays {
		return api.ErrLimit
	}
	if !every(l, Stay.isValid) {
		return api.ErrArg
	}
	return api.OK
}

func (s Stay) isValid() bool { return Range{s.In, s.Out}.isDate() }

func inRange(isSo bool) api.Errno {
	if !isSo {
		return api.ErrRange
	}
	return api.OK
}

// every tells whether a condition holds for all elements.
func every[T any](l []T, holds func(T) bool) bool {
	for _, x := range l {
		if !holds(x) {
			return false
		}
	}
	return true
}

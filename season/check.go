package season

import "bybloem/api"

// isValid tells whether the year, which has not too many weeks and kinds, is as
// the chapter describes one.
func (y Year) isValid() bool {
	return len(y.Weeks) > 0 && every(y.Weeks, Range.isWarmth) &&
		len(y.Kinds) > 0 && every(y.Kinds, Kind.isValid)
}

func (r Range) isWarmth() bool { return 0 <= r.Lo && r.Lo <= r.Hi && r.Hi <= api.MaxWarmth }

func (k Kind) isValid() bool {
	return Range{1, api.MaxHeat}.has(k.Bloom) &&
		Range{1, api.MaxCalendar}.has(k.Weeks) &&
		Range{0, api.MaxHead}.has(k.Head) &&
		Range{0, api.MaxHeat}.has(k.Ripe)
}

// checkSights returns the error of the sights, or OK.
func (y Year) checkSights(sights []Sight) api.Errno {
	if len(sights) > api.MaxSights {
		return api.ErrLimit
	}
	return inRange(every(sights, y.hasSight))
}

// checkTruth returns the error of the truth, or OK.
func (y Year) checkTruth(truth []int) api.Errno {
	if len(truth) != len(y.Weeks) {
		return api.ErrRange
	}
	for week, warmth := range truth {
		if !y.Weeks[week].has(warmth) {
			return api.ErrRange
		}
	}
	return api.OK
}

// checkFields returns the error of the fields, or OK.
func (y Year) checkFields(fields []Field) api.Errno {
	if len(fields) > api.MaxFields {
		return api.ErrLimit
	}
	return inRange(every(fields, y.hasField))
}

func (y Year) checkKind(kind int) api.Errno { return inRange(y.hasKind(kind)) }

func inRange(isSo bool) api.Errno {
	if !isSo {
		return api.ErrRange
	}
	return api.OK
}

func (y Year) hasKind(kind int) bool { return 0 <= kind && kind < len(y.Kinds) }

func (y Year) hasWeek(week int) bool { return 0 <= week && week < len(y.Weeks) }

func (y Year) hasSight(s Sight) bool { return y.hasKind(s.Kind) && y.hasWeek(s.Week) }

func (y Year) hasField(f Field) bool {
	return y.hasKind(f.Kind) && Range{1, api.MaxRows}.has(f.Rows)
}

// every tells whether a condition holds for all elements.
func every[T any](l []T, holds func(T) bool) bool {
	for _, x := range l {
		if !holds(x) {
			return false
		}
	}
	return true
}

package store

import (
	"slices"

	"bybloem/api"
)

// nobody stands for the index of the bad crate, if there is none.
const nobody = -1

// whole is all of something, in thousandths.
const whole = 1000

// isValid tells whether the store, which has not too many crates and times, is
// as the chapter describes one.
func (s Store) isValid() bool {
	return Range{0, api.MaxHours}.has(s.Hours) &&
		every(s.Crates, Crate.isValid) &&
		s.Start.isUpTo(api.MaxGas) &&
		Range{s.Leak, s.Open}.isUpTo(whole) &&
		Range{0, api.MaxAir}.has(s.Limit) &&
		rises(s.Times) && every(s.Times, s.hasHour)
}

func (c Crate) isValid() bool {
	return Range{c.From, c.To}.isUpTo(api.MaxHours) && c.Breath.isUpTo(api.MaxGas) && c.Gas.isUpTo(api.MaxGas)
}

func (s Store) hasHour(hour int) bool { return 0 <= hour && hour < s.Hours }

func (s Store) hasTime(hour int) bool { return slices.Contains(s.Times, hour) }

// canBeBad tells whether it is nobody or a suspect.
func (s Store) canBeBad(bad int) bool {
	return bad == nobody || 0 <= bad && bad < len(s.Crates) && s.Crates[bad].Suspect
}

// gasOf returns the range of what the bad crate, or nobody, gives off besides
// its breath.
func (s Store) gasOf(bad int) Range {
	if bad == nobody {
		return Range{}
	}
	return s.Crates[bad].Gas
}

// hasTruth tells whether it is a truth of the store, with someone who can be
// bad.
func (s Store) hasTruth(bad int, t Truth) bool {
	return s.Start.has(t.Start) &&
		len(t.Breath) == s.Hours && every(t.Breath, s.hasBreath) &&
		len(t.Gas) == s.Hours && every(t.Gas, s.gasOf(bad).has)
}

// hasBreath tells whether these are numbers of what the crates give off in an
// hour.
func (s Store) hasBreath(breath []int) bool {
	if len(breath) != len(s.Crates) {
		return false
	}
	for n, c := range s.Crates {
		if !c.Breath.has(breath[n]) {
			return false
		}
	}
	return true
}

// checkDoors returns the error of the store, or else of the doors, or OK.
func (s Store) checkDoors(doors []int) api.Errno {
	if e := CheckStore(s); e != api.OK {
		return e
	}
	return inRange(rises(doors) && every(doors, s.hasTime))
}

// checkReadings returns the error of the readings, or OK.
func (s Store) checkReadings(readings []Reading) api.Errno {
	if len(readings) > api.MaxHeard {
		return api.ErrLimit
	}
	if !every(readings, s.hasReading) {
		return api.ErrArg
	}
	return api.OK
}

func (s Store) hasReading(r Reading) bool { return s.hasHour(r.Hour) && r.Air.isUpTo(api.MaxAir) }

// checkRiddles returns the error of the holes and the bulbs, or OK.
func checkRiddles(holes []int, bulbs []Range) api.Errno {
	if len(holes) > api.MaxRiddles || len(bulbs) > api.MaxHeap {
		return api.ErrLimit
	}
	if !rises(holes) || !every(holes, Range{1, api.MaxGirth}.has) || !every(bulbs, Range.isGirth) {
		return api.ErrArg
	}
	return api.OK
}

func (r Range) isGirth() bool { return r.isUpTo(api.MaxGirth) }

func inRange(isSo bool) api.Errno {
	if !isSo {
		return api.ErrRange
	}
	return api.OK
}

// every tells whether a condition holds for all elements.
func every[T any](l []T, holds func(T) bool) bool {
	for _, x := range l {
		if !holds(x) {
			return false
		}
	}
	return true
}

func rises(l []int) bool {
	for n := 1; n < len(l); n++ {
		if l[n-1] >= l[n] {
			return false
		}
	}
	return true
}

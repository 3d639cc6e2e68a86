package polder

import "bybloem/api"

// isValid tells whether the polder, which has not too many days, is as the chapter
// describes one.
func (p Polder) isValid() bool {
	return p.levels().isUpTo(api.MaxWater) &&
		p.Start.Lo <= p.Start.Hi && every([]int{p.Start.Lo, p.Start.Hi}, p.isKept) &&
		every([]int{p.Pump, p.Inlet}, Range{0, api.MaxDaily}.has) &&
		len(p.Days) > 0 && every(p.Days, Day.isValid)
}

func (d Day) isValid() bool {
	return d.Rain.isUpTo(api.MaxRainfall) &&
		Range{0, api.MaxRainfall}.has(d.Seep) &&
		every([]int{d.Out, d.In}, Range{0, api.MaxTariff}.has)
}

// checkLevel returns the error of the polder, or else of the day and the level, or
// OK.
func (p Polder) checkLevel(day, level int) api.Errno {
	if e := CheckPolder(p); e != api.OK {
		return e
	}
	return inRange(0 <= day && day < len(p.Days) && p.isKept(level))
}

// checkRains returns the error of the polder, or else of the start and the rain, or
// OK.
func (p Polder) checkRains(start int, rains []int) api.Errno {
	if e := CheckPolder(p); e != api.OK {
		return e
	}
	return inRange(p.Start.has(start) && p.canRain(rains))
}

// canRain tells whether it is a rain for each day.
func (p Polder) canRain(rains []int) bool {
	if len(rains) != len(p.Days) {
		return false
	}
	for day, rain := range rains {
		if !p.Days[day].Rain.has(rain) {
			return false
		}
	}
	return true
}

// hasTable tells whether the table has a list for each day, and one of nothing for
// the day behind them.
func (p Polder) hasTable(table [][]int) bool {
	return len(table) == len(p.Days)+1 &&
		every(table, p.hasList) &&
		every(table[len(p.Days)], Range{0, 0}.has)
}

// hasList tells whether the list has a number for each level.
func (p Polder) hasList(l []int) bool {
	return len(l) == p.High-p.Low+1 && every(l, Range{never, api.MaxBill}.has)
}

func inRange(isSo bool) api.Errno {
	if !isSo {
		return api.ErrRange
	}
	return api.OK
}

// every tells whether a condition holds for all elements.
func every[T any](l []T, holds func(T) bool) bool {
	for _, x := range l {
		if !holds(x) {
			return false
		}
	}
	return true
}

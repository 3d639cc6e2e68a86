package bed

import "bybloem/api"

// isValid tells whether the farm, which has not too many years and pairs, is as
// the chapter describes one.
func (f Farm) isValid() bool {
	return within(f.Beds, 1, api.MaxBeds) &&
		within(f.Crops, 1, api.MaxCrops) &&
		len(f.Needs) > 0 &&
		every(f.Needs, f.canNeed) &&
		len(f.Floods) == len(f.Needs) &&
		every(f.Floods, isNumber) &&
		len(f.Past) == f.Beds &&
		every(f.Past, f.canBePast) &&
		every(f.Apart, f.hasPair)
}

// canNeed tells whether the list can be what the crops need in a year.
func (f Farm) canNeed(needs []int) bool { return len(needs) == f.Crops && every(needs, isNumber) }

// canBePast tells whether the list can be the past of a bed.
func (f Farm) canBePast(uses []int) bool { return len(uses) <= api.MaxPast && every(uses, f.hasUse) }

func (f Farm) hasPair(p Pair) bool { return f.hasCrop(p.A) && f.hasCrop(p.B) }

func (f Farm) hasCrop(crop int) bool { return within(crop, 0, f.Crops-1) }

func (f Farm) hasUse(use int) bool { return use == Idle || use == Flood || f.hasCrop(use) }

// hasPlan tells whether the plan has a use for each bed in each year.
func (f Farm) hasPlan(plan [][]int) bool {
	isRow := func(uses []int) bool { return len(uses) == f.Beds && every(uses, f.hasUse) }
	return len(plan) == len(f.Needs) && every(plan, isRow)
}

// isNumber tells whether n can be a number of beds. It may be greater than that
// of the beds of the farm.
func isNumber(n int) bool { return within(n, 0, api.MaxBeds) }

func isRest(n int) bool { return within(n, 0, api.MaxRest) }

// within tells whether n is from lo to hi.
func within(n, lo, hi int) bool { return lo <= n && n <= hi }

// every tells whether a condition holds for all elements.
func every[T any](l []T, holds func(T) bool) bool {
	for _, x := range l {
		if !holds(x) {
			return false
		}
	}
	return true
}

// sum returns the sum of the numbers.
func sum(numbers ...int) int {
	total := 0
	for _, n := range numbers {
		total += n
	}
	return total
}

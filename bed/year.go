package bed

import (
	"iter"
	"slices"
)

// inYear is a farm in one of the years for which it is planned.
type inYear struct {
	Farm
	year int
}

// rule is a condition on what beds are used for in a year.
type rule struct {
	holds func(y inYear, uses []int) bool
}

// rules returns all conditions. They are put to the uses of the beds from the
// first one on, so that what no further beds can mend is found early; of uses of
// all beds they tell whether these are allowed.
func rules() []rule {
	return []rule{{inYear.meetsNeeds}, {inYear.canFlood}, {inYear.keepsApart}}
}

// isAllowed tells whether the first beds can have these uses.
func (y inYear) isAllowed(uses []int) bool {
	holds := func(r rule) bool { return r.holds(y, uses) }
	return every(rules(), holds)
}

// meetsNeeds tells whether each crop stands on no more beds than it needs, and
// the other beds are enough for what is missing.
func (y inYear) meetsNeeds(uses []int) bool {
	var missing []int
	for crop, need := range y.Needs[y.year] {
		missing = append(missing, need-count(uses, crop))
	}
	return slices.Min(missing) >= 0 && sum(missing...) <= y.Beds-len(uses)
}

func (y inYear) canFlood(uses []int) bool { return count(uses, Flood) <= y.Floods[y.year] }

// keepsApart tells whether no two beds side by side have the crops of a pair.
func (y inYear) keepsApart(uses []int) bool {
	apart := true
beds:
	for bed := 1; bed < len(uses); bed++ {
		for _, p := range y.Apart {
			if p.has(uses[bed-1], uses[bed]) {
				apart = false
				break beds
			}
		}
	}
	return apart
}

// has tells whether these are the two crops of the pair, in any order.
func (p Pair) has(a, b int) bool { return p == Pair{a, b} || p == Pair{b, a} }

// rows yields, each in new memory, all uses of the beds that are allowed as they
// are chosen, bed by bed.
func (f Farm) rows(isAllowed func(uses []int) bool) iter.Seq[[]int] {
	return func(yield func([]int) bool) {
		var uses []int
		var choose func() bool // false once no more are wanted
		choose = func() bool {
			if len(uses) == f.Beds {
				return yield(slices.Clone(uses))
			}
			for use := range f.uses() {
				uses = append(uses, use)
				if isAllowed(uses) && !choose() {
					return false
				}
				uses = uses[:len(uses)-1]
			}
			return true
		}
		choose()
	}
}

// uses yields all uses of a bed, rising.
func (f Farm) uses() iter.Seq[int] {
	return func(yield func(int) bool) {
		for use := Flood; use < f.Crops; use++ {
			if !yield(use) {
				return
			}
		}
	}
}

// count returns how many of the elements are x.
func count[T comparable](l []T, x T) int {
	n := 0
	for _, y := range l {
		if y == x {
			n++
		}
	}
	return n
}

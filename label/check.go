package label

import (
	"slices"

	"bybloem/api"
)

// checkLots returns the error of lots that are given together, or OK.
func checkLots(lots ...Lot) api.Errno {
	if !every(lots, Lot.isShort) {
		return api.ErrLimit
	}
	if !every(lots, Lot.isValid) {
		return api.ErrArg
	}
	return api.OK
}

// isShort tells whether the lot has not too many parts.
func (l Lot) isShort() bool { return len(l.Parts) <= api.MaxParts }

// isValid tells whether the lot, which has not too many parts, is as the
// chapter describes one.
func (l Lot) isValid() bool {
	return Range{1, api.MaxKinds}.has(len(l.Looks)) &&
		Range{1, api.MaxTraits}.has(l.traits()) &&
		every(l.Looks, l.isKind) &&
		l.kindsDiffer() &&
		every(l.Parts, l.isPart)
}

// traits returns the number of traits, which is that of the first kind.
func (l Lot) traits() int {
	if len(l.Looks) == 0 {
		return 0
	}
	return len(l.Looks[0])
}

// isKind tells whether a kind of the lot can have these looks.
func (l Lot) isKind(looks []int) bool {
	return len(looks) == l.traits() && every(looks, Range{0, api.MaxLooks - 1}.has)
}

// kindsDiffer tells whether no two kinds, each with valid looks, have the same
// ones.
func (l Lot) kindsDiffer() bool {
	known := map[[api.MaxTraits]int]bool{}
	for _, looks := range l.Looks {
		var padded [api.MaxTraits]int
		copy(padded[:], looks)
		known[padded] = true
	}
	return len(known) == len(l.Looks)
}

// isPart tells whether the part can be one of the lot.
func (l Lot) isPart(p Part) bool {
	return Range{0, api.MaxFlowers}.has(p.Plants) &&
		len(p.Seen) == l.traits() &&
		every(p.Seen, p.canBeSeen)
}

// canBeSeen tells whether the part can have this for a trait.
func (p Part) canBeSeen(seen []int) bool {
	if len(seen) == 0 {
		return true
	}
	return len(seen) == api.MaxLooks && every(seen, Range{0, p.Plants}.has) && sum(seen...) == p.Plants
}

// hasKind tells whether the lot has a kind with the index.
func (l Lot) hasKind(kind int) bool { return Range{0, len(l.Looks) - 1}.has(kind) }

// hasKindsOf tells whether both lots have the same kinds, in the same order.
func (l Lot) hasKindsOf(other Lot) bool {
	return slices.EqualFunc(l.Looks, other.Looks, slices.Equal)
}

// copyLists copies lists into new memory.
func copyLists(lists [][]int) [][]int {
	var copies [][]int
	for _, l := range lists {
		copies = append(copies, slices.Clone(l))
	}
	return copies
}

// every tells whether a condition holds for all elements.
func every[T any](l []T, holds func(T) bool) bool {
	fails := func(x T) bool { return !holds(x) }
	return !slices.ContainsFunc(l, fails)
}

// sum returns the sum of the numbers.
func sum(numbers ...int) int {
	total := 0
	for _, n := range numbers {
		total += n
	}
	return total
}

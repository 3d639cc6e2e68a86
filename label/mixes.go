package label

import (
	"iter"

	"bybloem/api"
)

// mix is a truth of a part: its number of plants of each kind, and 0 of kinds
// that the lot has not.
type mix [api.MaxKinds]int

// left is what is still to be told of a part: its plants, and those with each
// look, by the traits by which it was looked at.
type left struct {
	plants int
	looked [api.MaxTraits]bool
	looks  [api.MaxTraits][api.MaxLooks]int
}

// all returns what is to be told of the part as long as nothing is.
func (p Part) all() left {
	r := left{plants: p.Plants}
	for trait, seen := range p.Seen {
		r.looked[trait] = len(seen) > 0
		copy(r.looks[trait][:], seen)
	}
	return r
}

// without returns what is left once plants with these looks are told of, and
// whether so many of them were left.
func (r left) without(plants int, looks []int) (left, bool) {
	if !(Range{0, r.plants}).has(plants) {
		return left{}, false
	}
	r.plants -= plants
	agrees := true
traits:
	for trait, look := range looks {
		switch {
		case !r.looked[trait]:
			continue
		case r.looks[trait][look] < plants:
			agrees = false
			break traits
		}
		r.looks[trait][look] -= plants
	}
	return r, agrees
}

// isNothing tells whether all was told.
func (r left) isNothing() bool {
	return r.plants == 0 && r.looks == [api.MaxTraits][api.MaxLooks]int{}
}

// isMix tells whether the numbers are a truth of the part.
func (l Lot) isMix(part int, numbers []int) bool {
	if len(numbers) != len(l.Looks) {
		return false
	}
	rest, agrees := l.Parts[part].all(), true
	for kind, plants := range numbers {
		if rest, agrees = rest.without(plants, l.Looks[kind]); !agrees {
			return false
		}
	}
	return rest.isNothing()
}

// mixes yields all truths of the part.
func (l Lot) mixes(part int) iter.Seq[mix] {
	return func(yield func(mix) bool) {
		var m mix
		var put func(kind int, rest left) bool // false once no more are wanted
		put = func(kind int, rest left) bool {
			if kind == len(l.Looks) {
				return !rest.isNothing() || yield(m)
			}
			for plants := range rest.plants + 1 {
				less, agrees := rest.without(plants, l.Looks[kind])
				if !agrees {
					break
				}
				m[kind] = plants
				if !put(kind+1, less) {
					return false
				}
			}
			return true
		}
		put(0, l.Parts[part].all())
	}
}

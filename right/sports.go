package right

import "bybloem/api"

// seedling stands for the index of the parent of a variety that has none.
const seedling = -1

// maxTrait is the greatest number of a trait.
const maxTrait = 99

// sports are varieties, and how many traits of one have to differ from those of its
// parent.
type sports struct {
	varieties []Variety
	distance  int
}

func (s sports) check() api.Errno {
	return check(s,
		need[sports]{func(s sports) bool { return len(s.varieties) <= api.MaxVarieties }, api.ErrLimit},
		need[sports]{sports.areValid, api.ErrArg},
		need[sports]{func(s sports) bool { return upTo(api.MaxTraitsOf).has(s.distance) }, api.ErrRange},
	)
}

func (s sports) areValid() bool {
	for n, v := range s.varieties {
		isEarlier := span{seedling, n - 1}.has
		if !isEarlier(v.Parent) || !v.isValid() || len(v.Traits) != len(s.varieties[0].Traits) {
			return false
		}
	}
	return true
}

// isValid tells whether the variety is as the chapter describes one, but for its
// parent.
func (v Variety) isValid() bool {
	return isParty(v.Breeder) &&
		span{1, api.MaxTraitsOf}.has(len(v.Traits)) &&
		every(v.Traits, upTo(maxTrait).has)
}

// isDistinct tells whether the variety, which is no seedling, is distinct from its
// parent.
func (s sports) isDistinct(v Variety) bool {
	count := 0
	for n, trait := range s.varieties[v.Parent].Traits {
		if trait != v.Traits[n] {
			count++
		}
	}
	return count >= s.distance
}

// owners returns for each variety to whom the right in it belongs.
func (s sports) owners() []int {
	var owner func(v Variety) int
	owner = func(v Variety) int {
		if v.Parent == seedling || s.isDistinct(v) {
			return v.Breeder
		}
		return owner(s.varieties[v.Parent])
	}
	var owners []int
	for _, v := range s.varieties {
		owners = append(owners, owner(v))
	}
	return owners
}

package label

import (
	"iter"

	"bybloem/api"
)

// whole is a lot in thousandths.
const whole = 1000

// purity is the thousandths of a lot that have to be of a kind, so that it has
// the name of the kind.
type purity int

func (p purity) isValid() bool { return Range{1, api.MaxPure}.has(int(p)) }

// isReached tells whether so many of the plants are enough for the name.
func (p purity) isReached(many, plants int) bool { return whole*many >= int(p)*plants }

// named returns the kinds of which enough are in the lot, if each is at this
// end of its range.
func (x examined) named(end func(Range) int, isEnough func(many, plants int) bool) []int {
	var kinds []int
	for kind := range x.Looks {
		if isEnough(x.sumOf(kind, end), x.plants()) {
			kinds = append(kinds, kind)
		}
	}
	return kinds
}

// fewestRogues returns the fewest rogues after which surely enough of the lot
// are of the kind, and whether so many can be dug.
func (x examined) fewestRogues(kind int, isEnough func(many, plants int) bool) (rogues int, can bool) {
	least, plants := x.sumOf(kind, Range.least), x.plants()
	for dug := range x.mostRogues(kind) + 1 {
		if isEnough(least, plants-dug) {
			return dug, true
		}
	}
	return 0, false
}

// mostRogues returns the most plants that can be dug as rogues.
func (x examined) mostRogues(kind int) int {
	var all []int
	for _, p := range x.Parts {
		all = append(all, p.mostTold(x.Looks[kind]))
	}
	return sum(all...)
}

// mostTold returns the most plants that can be told by one trait from a kind
// with these looks.
func (p Part) mostTold(looks []int) int {
	most := 0
	for trait, seen := range p.Seen {
		if len(seen) > 0 {
			most = max(most, p.Plants-seen[looks[trait]])
		}
	}
	return most
}

// inspection is of a part by a trait, with its worst for a kind.
type inspection struct{ part, trait, worst int }

// nextInspection returns the next inspection for the kind, and whether any is
// left.
func (x examined) nextInspection(kind int) (next inspection, found bool) {
	for part, p := range x.Parts {
		ranges := x.sights(part, kind)
		elsewhere := x.rangeOf(kind).width() - x.ranges[part][kind].width()
		for trait := range p.notLooked() {
			worst := elsewhere + widest(ranges, trait)
			if !found || worst < next.worst {
				next, found = inspection{part, trait, worst}, true
			}
		}
	}
	return next, found
}

// notLooked yields the traits by which the part was not looked at.
func (p Part) notLooked() iter.Seq[int] {
	return func(yield func(int) bool) {
		for trait, seen := range p.Seen {
			if len(seen) == 0 && !yield(trait) {
				return
			}
		}
	}
}

// sight is what an inspection by a trait may tell: the plants with each look.
type sight struct {
	trait  int
	plants [api.MaxLooks]int
}

// sights returns all that inspections of the part may tell, and the range that
// this leaves of the kind in the part.
func (x examined) sights(part, kind int) map[sight]Range {
	ranges := map[sight]Range{}
	for m := range x.mixes(part) {
		for trait := range x.Parts[part].notLooked() {
			s := x.sightOf(m, trait)
			r, known := ranges[s]
			if !known {
				r = single(m[kind])
			}
			ranges[s] = r.with(m[kind])
		}
	}
	return ranges
}

// sightOf returns what an inspection by the trait tells of the mix.
func (l Lot) sightOf(m mix, trait int) sight {
	s := sight{trait: trait}
	for kind, looks := range l.Looks {
		s.plants[looks[trait]] += m[kind]
	}
	return s
}

// widest returns the width of the widest range that inspections by the trait
// may leave.
func widest(ranges map[sight]Range, trait int) int {
	width := 0
	for s, r := range ranges {
		if s.trait == trait {
			width = max(width, r.width())
		}
	}
	return width
}

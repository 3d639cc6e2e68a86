package stock

import (
	"iter"
	"slices"
)

// offer is a plan in the truth that sells least, and crates to buy for it.
type offer struct {
	course
	crates []Crate
	size   int // the one of which the purchases are to sell enough
	found  map[counts]int
}

// newOffer returns the offer of the crates, of which nothing is found yet.
func newOffer(p Plan, crates []Crate, size int) offer {
	return offer{course: p.follow(lesserEnds()), crates: crates, size: size, found: map[counts]int{}}
}

// gives returns how many bulbs are surely sold with a purchase, if it is
// possible.
func (o offer) gives(purchase []int) (sold int, possible bool) {
	start := o.start()
	for kind, c := range o.crates {
		start[c.Size] += c.Bulbs * purchase[kind]
	}
	if !o.hasRoom(start) {
		return 0, false
	}
	return o.sure(start), true
}

// hasRoom tells whether there is room for all that a purchase lets be planted
// at first, of which this is the least.
func (o offer) hasRoom(start counts) bool {
	for size, r := range o.Start {
		if start[size]+r.Hi-r.Lo > o.Room[size] {
			return false
		}
	}
	return true
}

// sure returns how many bulbs are surely sold from what is planted at first.
// Different purchases may plant the same, which is looked at once.
func (o offer) sure(start counts) int {
	sold, known := o.found[start]
	if !known {
		sold = o.sells(start, o.size)
		o.found[start] = sold
	}
	return sold
}

// best returns the purchase that gives enough and costs least, and its price.
func best(crates []Crate, number int, gives func([]int) (int, bool)) (purchase []int, price int, found bool) {
	for p := range purchases(crates) {
		cost := costOf(crates, p)
		// Of those that cost the same the first one is the least list.
		if found && cost >= price {
			continue
		}
		if sold, possible := gives(p); possible && sold >= number {
			purchase, price, found = slices.Clone(p), cost, true
		}
	}
	return purchase, price, found
}

// costOf returns what a purchase costs.
func costOf(crates []Crate, purchase []int) int {
	cost := 0
	for kind, c := range crates {
		cost += c.Price * purchase[kind]
	}
	return cost
}

// purchases yields all purchases of the crates, by rising lists. Each one is
// changed into the next one.
func purchases(crates []Crate) iter.Seq[[]int] {
	return func(yield func([]int) bool) {
		purchase := make([]int, len(crates))
		for yield(purchase) && goOn(purchase, crates) {
		}
	}
}

// goOn changes a purchase into the next one, if there is one.
func goOn(purchase []int, crates []Crate) bool {
	for kind, c := range slices.Backward(crates) {
		if purchase[kind] < c.Most {
			purchase[kind]++
			return true
		}
		purchase[kind] = 0
	}
	return false
}

package clock

import "slices"

// canPay tells whether the whole credit of its buyer pays for what the press
// wants at a price at which the clock stands.
func (a Auction) canPay(p Press) bool {
	for _, price := range a.ticks(p.Lot) {
		if p.Wants*price <= a.Buyers[p.Buyer].Credit {
			return true
		}
	}
	return false
}

// lastTick returns the last tick of the press, and whether it could wait until
// any. All ticks are tried: with a lower price the credit may pay again for what
// it did not before, so that a tick which is too early tells nothing of later
// ones.
func (a Auction) lastTick(presses []Press, p Press) (last int, could bool) {
	isRival := func(other Press) bool { return other.Lot != p.Lot || other.Buyer != p.Buyer }
	l := []Press{p}
	for _, other := range presses {
		if isRival(other) {
			l = append(l, other)
		}
	}
	for tick, price := range a.ticks(p.Lot) {
		l[0].Tick = tick
		wanted := Sale{Lot: p.Lot, Tick: tick, Buyer: p.Buyer, Units: p.Wants, Price: price}
		if slices.Contains(a.sell(l).sales, wanted) {
			last, could = tick, true
		}
	}
	return last, could
}

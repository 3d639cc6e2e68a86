package clock

import (
	"cmp"
	"slices"

	"bybloem/api"
)

// isValid tells whether the auction, which has not too many lots and buyers, is
// as the chapter describes one.
func (a Auction) isValid() bool {
	return len(a.Lots) > 0 && every(a.Lots, Lot.isValid) &&
		within(a.Step, 1, api.MaxCoin) &&
		within(a.Fee, 0, whole) &&
		len(a.Buyers) > 0 && every(a.Buyers, Buyer.isValid)
}

func (l Lot) isValid() bool {
	return within(l.Units, 1, api.MaxUnits) &&
		within(l.Start, 1, api.MaxCoin) &&
		within(l.Floor, 1, l.Start) &&
		within(l.Least, 1, l.Units) &&
		within(l.Seller, 0, api.MaxSeller)
}

func (b Buyer) isValid() bool {
	return within(b.Credit, 0, api.MaxCredit) && within(b.Trust, 0, api.MaxTrust)
}

// checkPresses returns the error of the auction, or else of the presses, or OK.
func (a Auction) checkPresses(presses []Press) api.Errno {
	if e := CheckAuction(a); e != api.OK {
		return e
	}
	if len(presses) > api.MaxPresses {
		return api.ErrLimit
	}
	if !every(presses, a.hasPress) {
		return api.ErrRange
	}
	return api.OK
}

// hasPress tells whether there can be the press in the auction.
func (a Auction) hasPress(p Press) bool {
	return a.hasLotAndBuyer(p.Lot, p.Buyer) && isTick(p.Tick) && within(p.Wants, 1, api.MaxUnits)
}

func (a Auction) hasLotAndBuyer(lot, buyer int) bool {
	return within(lot, 0, len(a.Lots)-1) && within(buyer, 0, len(a.Buyers)-1)
}

func isTick(n int) bool { return within(n, 0, api.MaxTick) }

// checkSales returns the error of the sales, or OK.
func checkSales(sales []Sale) api.Errno {
	if len(sales) > api.MaxSales {
		return api.ErrLimit
	}
	if !isList(sales) {
		return api.ErrFail
	}
	return api.OK
}

// isList tells whether it is a list of sales that a file may have.
func isList(sales []Sale) bool {
	return len(sales) <= api.MaxSales && every(sales, Sale.isValid) &&
		slices.IsSortedFunc(sales, Sale.compare) && areDistinct(sales)
}

func (s Sale) isValid() bool {
	return within(s.Lot, 0, api.MaxLots-1) &&
		isTick(s.Tick) &&
		within(s.Buyer, 0, api.MaxBuyers-1) &&
		within(s.Units, 1, api.MaxUnits) &&
		within(s.Price, 1, api.MaxCoin)
}

// compare tells which of two sales comes first.
func (s Sale) compare(other Sale) int {
	return cmp.Or(cmp.Compare(s.Lot, other.Lot), cmp.Compare(s.Tick, other.Tick))
}

// areDistinct tells whether no buyer has two of the sales of a lot at a tick.
func areDistinct(sales []Sale) bool {
	seen := map[place]bool{}
	for _, s := range sales {
		at := placeOf(s.Lot, s.Tick, s.Buyer)
		if seen[at] {
			return false
		}
		seen[at] = true
	}
	return true
}

// hasSale tells whether the auction has the lot and the buyer of the sale, which
// is valid, and its price. It need not be one that Run makes.
func (a Auction) hasSale(s Sale) bool {
	return a.hasLotAndBuyer(s.Lot, s.Buyer) && s.Price == a.price(s.Lot, s.Tick)
}

// within tells whether n is from lo to hi.
func within(n, lo, hi int) bool { return lo <= n && n <= hi }

// every tells whether a condition holds for all elements.
func every[T any](l []T, holds func(T) bool) bool {
	for _, x := range l {
		if !holds(x) {
			return false
		}
	}
	return true
}

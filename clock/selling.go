package clock

import (
	"cmp"
	"iter"
	"slices"

	"bybloem/api"
)

// moment is a lot, and a tick of its clock.
type moment struct{ lot, tick int }

// place is what presses have in common of which one alone counts.
type place struct {
	moment
	buyer int
}

func placeOf(lot, tick, buyer int) place { return place{moment{lot, tick}, buyer} }

// turn is the press that counts at a place, with the trust in its buyer.
type turn struct {
	place
	wants, trust int
}

// compare tells which of two turns at the same moment is served first.
func (t turn) compare(other turn) int {
	return cmp.Or(cmp.Compare(other.trust, t.trust), cmp.Compare(t.buyer, other.buyer))
}

// turns returns the turns of each moment, in the order in which they are served.
func (a Auction) turns(presses []Press) map[moment][]turn {
	wants := map[place]int{}
	for _, p := range presses {
		at := placeOf(p.Lot, p.Tick, p.Buyer)
		wants[at] = max(wants[at], p.Wants)
	}
	turns := map[moment][]turn{}
	for at, most := range wants {
		turns[at.moment] = append(turns[at.moment], turn{at, most, a.Buyers[at.buyer].Trust})
	}
	for _, l := range turns {
		slices.SortFunc(l, turn.compare)
	}
	return turns
}

// price returns the price of a unit of the lot at the tick. It may be one at
// which the clock does not stand.
func (a Auction) price(lot, tick int) int { return a.Lots[lot].Start - tick*a.Step }

// ticks yields each tick at which the clock stands for the lot, with the price.
func (a Auction) ticks(lot int) iter.Seq2[int, int] {
	return func(yield func(tick, price int) bool) {
		for tick := range api.MaxTick + 1 {
			price := a.price(lot, tick)
			if price < a.Lots[lot].Floor || !yield(tick, price) {
				return
			}
		}
	}
}

// selling is a sale that goes on.
type selling struct {
	Auction
	sales        []Sale
	left, credit []int // of each lot, and of each buyer
}

// sell lets the auction go on to its end, with these presses.
func (a Auction) sell(presses []Press) selling {
	s := selling{Auction: a}
	for _, l := range s.Lots {
		s.left = append(s.left, l.Units)
	}
	for _, b := range s.Buyers {
		s.credit = append(s.credit, b.Credit)
	}
	turns := s.turns(presses)
	for lot := range s.Lots {
		s.sellLot(lot, turns)
	}
	return s
}

func (s *selling) sellLot(lot int, turns map[moment][]turn) {
	gets := func(t turn, price int) int {
		units := least(t.wants, s.left[lot], s.credit[t.buyer]/price)
		if units < s.Lots[lot].Least && units < s.left[lot] {
			return 0
		}
		return units
	}
ticks:
	for tick, price := range s.ticks(lot) {
		for _, t := range turns[moment{lot, tick}] {
			if units := gets(t, price); units > 0 {
				s.add(Sale{Lot: lot, Tick: tick, Buyer: t.buyer, Units: units, Price: price})
			}
			if s.left[lot] == 0 {
				break ticks
			}
		}
	}
}

// add makes the sale one of the sales.
func (s *selling) add(sold Sale) {
	s.sales = append(s.sales, sold)
	s.left[sold.Lot] -= sold.Units
	s.credit[sold.Buyer] -= sold.cost()
}

// least returns the least one of the numbers.
func least(first int, others ...int) int {
	for _, n := range others {
		first = min(first, n)
	}
	return first
}

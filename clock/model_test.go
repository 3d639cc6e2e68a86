package clock_test

import (
	"fmt"
	"math/rand"
	"slices"
	"strings"
	"testing"

	"bybloem/api"
	"bybloem/clock"
)

// The model gives unit by unit to one buyer after the other, and tries all ticks.
// Random auctions, always the same ones, are done by both.

// result is what Run returns without an error.
type result struct {
	sales        []clock.Sale
	left, credit []int
}

func (x result) isSame(other result) bool {
	return slices.Equal(x.sales, other.sales) && slices.Equal(x.left, other.left) && slices.Equal(x.credit, other.credit)
}

func modelPrice(a clock.Auction, lot, tick int) int {
	price := a.Lots[lot].Start
	for range tick {
		price -= a.Step
	}
	return price
}

// modelStands tells whether the clock stands at the tick.
func modelStands(a clock.Auction, lot, tick int) bool {
	return modelPrice(a, lot, tick) >= a.Lots[lot].Floor
}

// modelWants returns the most that presses of the buyer want of the lot at the
// tick.
func modelWants(presses []clock.Press, lot, tick, buyer int) int {
	most := 0
	for wants := 1; wants <= api.MaxUnits; wants++ {
		if slices.Contains(presses, clock.Press{Lot: lot, Tick: tick, Buyer: buyer, Wants: wants}) {
			most = wants
		}
	}
	return most
}

// modelBuyers returns the buyers from the one who is served first on.
func modelBuyers(a clock.Auction) []int {
	var order []int
	for trust := api.MaxTrust; trust >= 0; trust-- {
		for buyer, b := range a.Buyers {
			if b.Trust == trust {
				order = append(order, buyer)
			}
		}
	}
	return order
}

// modelGets returns how many units a press gets.
func modelGets(l clock.Lot, wants, left, credit, price int) int {
	units := 0
	for units < wants && units < left && (units+1)*price <= credit {
		units++
	}
	if units >= l.Least || units == left {
		return units
	}
	return 0
}

func modelRun(a clock.Auction, presses []clock.Press) result {
	var x result
	for _, b := range a.Buyers {
		x.credit = append(x.credit, b.Credit)
	}
	order := modelBuyers(a)
	for lot, l := range a.Lots {
		left := l.Units
		for tick := 0; tick <= api.MaxTick; tick++ {
			at := slices.DeleteFunc(slices.Clone(presses), func(p clock.Press) bool { return p.Lot != lot || p.Tick != tick })
			if len(at) == 0 || !modelStands(a, lot, tick) {
				continue
			}
			price := modelPrice(a, lot, tick)
			for _, buyer := range order {
				units := modelGets(l, modelWants(at, lot, tick, buyer), left, x.credit[buyer], price)
				if units > 0 {
					x.sales = append(x.sales, s(lot, tick, buyer, units, price))
					left -= units
					x.credit[buyer] -= units * price
				}
			}
		}
		x.left = append(x.left, left)
	}
	return x
}

// modelGot returns how many units the buyer got of the lot at the tick.
func modelGot(sales []clock.Sale, lot, tick, buyer int) int {
	got := 0
	for _, x := range sales {
		if x.Lot == lot && x.Tick == tick && x.Buyer == buyer {
			got += x.Units
		}
	}
	return got
}

// modelAlone are the presses with this one, and without all others of its buyer
// for its lot.
func modelAlone(presses []clock.Press, p clock.Press) []clock.Press {
	l := []clock.Press{p}
	for _, other := range presses {
		if other.Lot == p.Lot && other.Buyer == p.Buyer {
			continue
		}
		l = append(l, other)
	}
	return l
}

// modelWait tries the ticks from the last one on.
func modelWait(a clock.Auction, presses []clock.Press, p clock.Press) (int, api.Errno) {
	e := api.ErrDebt
	for p.Tick = api.MaxTick; p.Tick >= 0; p.Tick-- {
		if !modelStands(a, p.Lot, p.Tick) {
			continue
		}
		if p.Wants*modelPrice(a, p.Lot, p.Tick) <= a.Buyers[p.Buyer].Credit {
			e = api.ErrNone
		}
		if modelGot(modelRun(a, modelAlone(presses, p)).sales, p.Lot, p.Tick, p.Buyer) == p.Wants {
			return p.Tick, api.OK
		}
	}
	return 0, e
}

func modelSettle(a clock.Auction, sales []clock.Sale) clock.Accounts {
	x := clock.Accounts{Pays: make([]int, len(a.Buyers)), Gets: make([]int, api.MaxSeller+1)}
	for _, sold := range sales {
		thousandths := sold.Units * sold.Price * a.Fee
		fee := (thousandths - thousandths%1000) / 1000
		x.Pays[sold.Buyer] += sold.Units * sold.Price
		x.Gets[a.Lots[sold.Lot].Seller] += sold.Units*sold.Price - fee
		x.Fees += fee
	}
	return x
}

func modelFile(sales []clock.Sale) string {
	var b strings.Builder
	for _, x := range sales {
		fmt.Fprintf(&b, "%d %d %d %d %d\n", x.Lot, x.Tick, x.Buyer, x.Units, x.Price)
	}
	return b.String()
}

// shape is how great a random auction is at most: its lots, their units and
// prices, the buyers, and how many presses there are for how many ticks.
type shape struct{ lots, units, coins, buyers, presses, ticks int }

var (
	small = []shape{{1, 6, 12, 3, 8, 4}, {2, 9, 20, 3, 12, 5}, {3, 4, 9, 4, 20, 3}, {2, 12, 30, 2, 10, 6}, {1, 20, 15, 6, 24, 3}, {4, 5, 6, 3, 30, 6}}
	great = []shape{{api.MaxLots, api.MaxUnits, api.MaxCoin, api.MaxBuyers, api.MaxPresses, 12}, {3, 100, 300, api.MaxBuyers, api.MaxPresses, 8}, {api.MaxLots, 30, api.MaxCoin, 4, api.MaxPresses, api.MaxTick + 1}}
)

// allShapes has small auctions and great ones.
func allShapes() []shape { return slices.Concat(small, great) }

// upTo is a number from 1 up to the most.
func upTo(r *rand.Rand, most int) int { return 1 + r.Intn(most) }

// randomAuction is one in which the clock mostly stands at about so many ticks,
// and in which the credits pay for more or less of the lots.
func randomAuction(r *rand.Rand, x shape) clock.Auction {
	a := clock.Auction{Fee: r.Intn(1001), Step: upTo(r, max(1, x.coins/x.ticks))}
	if r.Intn(3) == 0 {
		a.Step = 1
	}
	all := 0
	for range upTo(r, x.lots) {
		l := clock.Lot{Units: upTo(r, x.units), Start: x.coins - r.Intn(max(1, x.coins/3)), Seller: r.Intn(api.MaxSeller + 1)}
		l.Floor = max(1, l.Start-a.Step*r.Intn(x.ticks+2)-r.Intn(a.Step))
		l.Least = 1
		if r.Intn(3) > 0 {
			l.Least = upTo(r, 1+l.Units/2)
		}
		all += l.Units * l.Start
		a.Lots = append(a.Lots, l)
	}
	for range upTo(r, x.buyers) {
		b := clock.Buyer{Credit: min(r.Intn(3*all/x.buyers+1), api.MaxCredit), Trust: r.Intn(3) * api.MaxTrust / 2}
		if r.Intn(9) == 0 {
			b.Credit = r.Intn(x.coins)
		}
		a.Buyers = append(a.Buyers, b)
	}
	return a
}

func randomPress(r *rand.Rand, a clock.Auction, x shape) clock.Press {
	lot := r.Intn(len(a.Lots))
	most := a.Lots[lot].Units
	if r.Intn(3) > 0 {
		most = max(1, most/2)
	}
	return clock.Press{Lot: lot, Tick: r.Intn(x.ticks), Buyer: r.Intn(len(a.Buyers)), Wants: min(upTo(r, most+2), api.MaxUnits)}
}

func randomPresses(r *rand.Rand, a clock.Auction, x shape) []clock.Press {
	var l []clock.Press
	for range r.Intn(x.presses + 1) {
		next := randomPress(r, a, x)
		if len(l) > 0 && r.Intn(6) == 0 { // at the same place as another one, or the same
			other := l[r.Intn(len(l))]
			other.Wants = max(1, min(other.Wants+r.Intn(3)-1, api.MaxUnits))
			next = other
		}
		l = append(l, next)
	}
	return l
}

// eachWait calls a test with random auctions, presses, and one that is to wait. It
// is mostly one that can.
func eachWait(t *testing.T, n int, shapes []shape, test func(a clock.Auction, l []clock.Press, next clock.Press)) {
	t.Helper()
	eachAuction(t, n, shapes, func(r *rand.Rand, a clock.Auction, l []clock.Press, x shape) {
		next := randomPress(r, a, x)
		if least := a.Lots[next.Lot].Least; r.Intn(3) > 0 {
			next.Wants = min(least+r.Intn(3), api.MaxUnits)
		}
		test(a, l, next)
	})
}

// eachAuction calls a test with random auctions of these shapes, and presses.
func eachAuction(t *testing.T, n int, shapes []shape, test func(r *rand.Rand, a clock.Auction, l []clock.Press, x shape)) {
	t.Helper()
	r := rand.New(rand.NewSource(9))
	for i := range n {
		x := shapes[i%len(shapes)]
		a := randomAuction(r, x)
		test(r, a, randomPresses(r, a, x), x)
		if t.Failed() {
			return
		}
	}
}

// eachSales calls a test with random auctions, and random sales with their prices,
// most of which no sale of it makes.
func eachSales(t *testing.T, n int, test func(r *rand.Rand, a clock.Auction, sales []clock.Sale)) {
	t.Helper()
	eachAuction(t, n, allShapes(), func(r *rand.Rand, a clock.Auction, _ []clock.Press, x shape) {
		var sales []clock.Sale
		many := r.Intn(api.MaxSales + 1)
		if r.Intn(2) == 0 {
			many = r.Intn(9)
		}
		for lot := range a.Lots {
			for tick := range x.ticks {
				for _, buyer := range r.Perm(len(a.Buyers)) {
					price := modelPrice(a, lot, tick)
					if price > 0 && len(sales) < many && r.Intn(2) == 0 {
						sales = append(sales, s(lot, tick, buyer, upTo(r, api.MaxUnits), price))
					}
				}
			}
		}
		test(r, a, sales)
	})
}

// counts tells how often what tests are about was so, and was not.
type counts map[string]int

func (c counts) add(name string, is bool) {
	if !is {
		name = "not " + name
	}
	c[name]++
}

func (c counts) countPresses(a clock.Auction, l []clock.Press) {
	for _, p := range l {
		c.add("at which the clock stands", modelStands(a, p.Lot, p.Tick))
		c.add("the most that its buyer wants", modelWants(l, p.Lot, p.Tick, p.Buyer) == p.Wants)
		isRival := func(other clock.Press) bool {
			return other.Lot == p.Lot && other.Tick == p.Tick && other.Buyer != p.Buyer
		}
		c.add("beside others", slices.ContainsFunc(l, isRival))
		c.add("beside others with the same trust", slices.ContainsFunc(l, func(other clock.Press) bool {
			return isRival(other) && a.Buyers[other.Buyer].Trust == a.Buyers[p.Buyer].Trust
		}))
	}
}

func (c counts) countSales(a clock.Auction, l []clock.Press, x result) {
	for _, sold := range x.sales {
		wants := modelWants(l, sold.Lot, sold.Tick, sold.Buyer)
		c.add("all that it wants", sold.Units == wants)
		c.add("the least", sold.Units == a.Lots[sold.Lot].Least)
		c.add("less than the least", sold.Units < a.Lots[sold.Lot].Least)
		c.add("the last of the credit", x.credit[sold.Buyer] < sold.Price)
		c.add("as late as can be", !modelStands(a, sold.Lot, sold.Tick+1))
	}
	for lot := range a.Lots {
		c.add("gone", x.left[lot] == 0)
	}
}

// TestRandomAuctions asks whether the random auctions have what the other tests
// are about at all.
func TestRandomAuctions(t *testing.T) {
	c := counts{}
	eachAuction(t, 600, allShapes(), func(r *rand.Rand, a clock.Auction, l []clock.Press, x shape) {
		c.countPresses(a, l)
		c.countSales(a, l, modelRun(a, l))
	})
	eachWait(t, 900, small, func(a clock.Auction, l []clock.Press, p clock.Press) {
		tick, e := modelWait(a, l, p)
		c.add("in debt", e == api.ErrDebt)
		c.add("too late at any tick", e == api.ErrNone)
		if e == api.OK {
			p.Tick = tick + 1
			c.add("as long as the clock stands", !modelStands(a, p.Lot, p.Tick))
			p.Tick = 0
			got := modelGot(modelRun(a, modelAlone(l, p)).sales, p.Lot, 0, p.Buyer)
			c.add("a press that could wait only later", got < p.Wants)
		}
	})
	for name, n := range c {
		if n < 20 {
			t.Errorf("%s: %d times", name, n)
		}
	}
	if len(c) != 28 {
		t.Errorf("not all that was counted was so, and was not so: %v", c)
	}
}

package clock_test

import (
	"math"
	"math/rand"
	"slices"
	"strconv"
	"strings"
	"testing"

	"bybloem/api"
	"bybloem/clock"
)

func p(lot, tick, buyer, wants int) clock.Press {
	return clock.Press{Lot: lot, Tick: tick, Buyer: buyer, Wants: wants}
}

func s(lot, tick, buyer, units, price int) clock.Sale {
	return clock.Sale{Lot: lot, Tick: tick, Buyer: buyer, Units: units, Price: price}
}

// hall is the auction of the chapter's examples, with one lot, and its presses.
func hall() clock.Auction {
	return clock.Auction{
		Step: 3, Fee: 50,
		Lots:   []clock.Lot{{Units: 10, Start: 20, Floor: 5, Least: 2, Seller: 1}},
		Buyers: []clock.Buyer{{Credit: 100, Trust: 5}, {Credit: 60, Trust: 9}, {Credit: 1000, Trust: 5}},
	}
}

func usual() []clock.Press { return []clock.Press{p(0, 3, 2, 6), p(0, 2, 0, 4), p(0, 2, 1, 5)} }

func sold() []clock.Sale {
	return []clock.Sale{s(0, 2, 1, 4, 14), s(0, 2, 0, 4, 14), s(0, 3, 2, 2, 11)}
}

// pair has two lots, of another seller each, and two buyers.
func pair() clock.Auction {
	return clock.Auction{
		Step: 1, Fee: 100,
		Lots:   []clock.Lot{{Units: 5, Start: 10, Floor: 8, Least: 3, Seller: 0}, {Units: 6, Start: 10, Floor: 1, Least: 1, Seller: 9}},
		Buyers: []clock.Buyer{{Credit: 45}, {Credit: 200}},
	}
}

// rich has one lot, and buyers for whom all prices are low.
func rich(units, least int, trust ...int) clock.Auction {
	a := clock.Auction{Step: 1, Lots: []clock.Lot{{Units: units, Start: 9, Floor: 1, Least: least}}}
	for _, n := range trust {
		a.Buyers = append(a.Buyers, clock.Buyer{Credit: api.MaxCredit, Trust: n})
	}
	return a
}

// full has as much of all as an auction can have.
func full() clock.Auction {
	lot := clock.Lot{Units: api.MaxUnits, Start: api.MaxCoin, Floor: api.MaxCoin, Least: api.MaxUnits, Seller: api.MaxSeller}
	return clock.Auction{
		Step: api.MaxCoin, Fee: 1000,
		Lots:   slices.Repeat([]clock.Lot{lot}, api.MaxLots),
		Buyers: slices.Repeat([]clock.Buyer{{Credit: api.MaxCredit, Trust: api.MaxTrust}}, api.MaxBuyers),
	}
}

// cloned is an auction of which all can be changed.
func cloned(a clock.Auction) clock.Auction {
	a.Lots, a.Buyers = slices.Clone(a.Lots), slices.Clone(a.Buyers)
	return a
}

// change is what makes an auction another one.
type change func(a *clock.Auction)

func (c change) of(a clock.Auction) clock.Auction {
	a = cloned(a)
	c(&a)
	return a
}

// beyond are numbers that are not from low to high.
func beyond(low, high int) []int {
	return []int{low - 1, high + 1, math.MinInt, math.MaxInt}
}

// badAuction is an auction that no call takes, and why.
type badAuction struct {
	a    clock.Auction
	want api.Errno
}

// setter sets one number.
type setter[T any] struct {
	low, high int
	set       func(x *T, n int)
}

func lotSetters() []setter[clock.Lot] {
	return []setter[clock.Lot]{
		{1, api.MaxUnits, func(l *clock.Lot, n int) { l.Units = n }},
		{1, api.MaxCoin, func(l *clock.Lot, n int) { l.Start = n }},
		{1, 6, func(l *clock.Lot, n int) { l.Floor = n }}, // at most Start
		{1, 4, func(l *clock.Lot, n int) { l.Least = n }}, // at most Units
		{0, api.MaxSeller, func(l *clock.Lot, n int) { l.Seller = n }},
	}
}

func buyerSetters() []setter[clock.Buyer] {
	return []setter[clock.Buyer]{
		{0, api.MaxCredit, func(b *clock.Buyer, n int) { b.Credit = n }},
		{0, api.MaxTrust, func(b *clock.Buyer, n int) { b.Trust = n }},
	}
}

func auctionSetters() []setter[clock.Auction] {
	return []setter[clock.Auction]{
		{1, api.MaxCoin, func(a *clock.Auction, n int) { a.Step = n }},
		{0, 1000, func(a *clock.Auction, n int) { a.Fee = n }},
	}
}

// three has three lots and buyers, of which each number may be as low as it can.
func three() clock.Auction {
	return clock.Auction{
		Step: 2, Fee: 10,
		Lots:   slices.Repeat([]clock.Lot{{Units: 4, Start: 6, Floor: 1, Least: 1, Seller: 3}}, 3),
		Buyers: slices.Repeat([]clock.Buyer{{Credit: 50, Trust: 3}}, 3),
	}
}

// variants are auctions of which one number is at an end of what it may be, or
// beyond it.
func variants(isBad bool) []clock.Auction {
	numbers := func(low, high int) []int {
		if isBad {
			return beyond(low, high)
		}
		return []int{low, low + 1, high - 1, high}
	}
	var l []clock.Auction
	for _, x := range auctionSetters() {
		for _, n := range numbers(x.low, x.high) {
			a := three()
			x.set(&a, n)
			l = append(l, a)
		}
	}
	for i := range 3 {
		for _, x := range lotSetters() {
			for _, n := range numbers(x.low, x.high) {
				a := three()
				x.set(&a.Lots[i], n)
				l = append(l, a)
			}
		}
		for _, x := range buyerSetters() {
			for _, n := range numbers(x.low, x.high) {
				a := three()
				x.set(&a.Buyers[i], n)
				l = append(l, a)
			}
		}
	}
	return l
}

func badAuctions() []badAuction {
	var l []badAuction
	for _, a := range variants(true) {
		l = append(l, badAuction{a, api.ErrArg})
	}
	for _, c := range []change{
		func(a *clock.Auction) { *a = clock.Auction{} },
		func(a *clock.Auction) { a.Lots = nil },
		func(a *clock.Auction) { a.Buyers = nil },
		func(a *clock.Auction) { a.Lots[2] = clock.Lot{} },
		func(a *clock.Auction) { a.Lots[1].Start = 0; a.Lots[1].Floor = 0 },
		func(a *clock.Auction) { a.Lots[0].Units = 0; a.Lots[0].Least = 0 },
		func(a *clock.Auction) { a.Lots[0].Start = 10001; a.Lots[0].Floor = 10001 },
	} {
		l = append(l, badAuction{c.of(three()), api.ErrArg})
	}
	lots := func(a *clock.Auction) { a.Lots = slices.Repeat(a.Lots[:1], api.MaxLots+1) }
	buyers := func(a *clock.Auction) { a.Buyers = slices.Repeat(a.Buyers[:1], api.MaxBuyers+1) }
	// The error that the table asks for first.
	for _, c := range []change{
		lots,
		buyers,
		func(a *clock.Auction) { lots(a); buyers(a) },
		func(a *clock.Auction) { lots(a); a.Buyers = nil },
		func(a *clock.Auction) { buyers(a); a.Lots = nil },
		func(a *clock.Auction) { buyers(a); a.Lots[0].Units = 0 },
		func(a *clock.Auction) { lots(a); a.Step = 0 },
		func(a *clock.Auction) { a.Lots = make([]clock.Lot, 1000) },
		func(a *clock.Auction) { a.Buyers = make([]clock.Buyer, 1000) },
	} {
		l = append(l, badAuction{c.of(three()), api.ErrLimit})
	}
	return l
}

// badPresses are no presses of the hall.
func badPresses() map[api.Errno][][]clock.Press {
	many := func(n int, x clock.Press) []clock.Press { return slices.Repeat([]clock.Press{x}, n) }
	bad := map[api.Errno][][]clock.Press{
		api.ErrLimit: {
			many(api.MaxPresses+1, p(0, 0, 0, 1)), // a press counts as often as it stands there
			many(api.MaxPresses+1, clock.Press{}),
			many(api.MaxPresses+1, p(9, 9, 9, 9)),
			many(1000, p(0, 0, 0, 1)),
		},
	}
	for _, x := range []struct {
		low, high int
		of        func(n int) clock.Press
	}{
		{0, 0, func(n int) clock.Press { return p(n, 1, 1, 1) }},
		{0, api.MaxTick, func(n int) clock.Press { return p(0, n, 1, 1) }},
		{0, 2, func(n int) clock.Press { return p(0, 1, n, 1) }},
		{1, api.MaxUnits, func(n int) clock.Press { return p(0, 1, 1, n) }},
	} {
		for _, n := range beyond(x.low, x.high) {
			bad[api.ErrRange] = append(bad[api.ErrRange], []clock.Press{x.of(n)}, append(usual(), x.of(n)), append([]clock.Press{x.of(n)}, usual()...))
		}
	}
	return bad
}

// badSales are no lists of sales that a file may have.
func badSales() map[api.Errno][][]clock.Sale {
	bad := map[api.Errno][][]clock.Sale{
		api.ErrLimit: {make([]clock.Sale, api.MaxSales+1), longList(api.MaxSales + 1), make([]clock.Sale, 1000)},
		api.ErrFail: {
			{{}},
			make([]clock.Sale, api.MaxSales),
			{s(1, 0, 0, 1, 10), s(0, 0, 0, 1, 10)},
			{s(1, 0, 0, 1, 10), s(0, 1, 0, 1, 9)},
			{s(0, 1, 0, 1, 9), s(0, 0, 0, 1, 10)},
			{s(0, 0, 0, 1, 10), s(0, 1, 0, 1, 9), s(0, 0, 1, 1, 10)},
			{s(0, 0, 0, 1, 10), s(0, 0, 0, 1, 10)},
			{s(0, 0, 0, 1, 10), s(0, 0, 0, 2, 10)},
			{s(1, 2, 1, 1, 8), s(1, 2, 0, 1, 8), s(1, 2, 1, 3, 8)}, // with another buyer between them
		},
	}
	for _, x := range []struct {
		low, high int
		of        func(n int) clock.Sale
	}{
		{0, api.MaxLots - 1, func(n int) clock.Sale { return s(n, 1, 1, 1, 9) }},
		{0, api.MaxTick, func(n int) clock.Sale { return s(0, n, 1, 1, 9) }},
		{0, api.MaxBuyers - 1, func(n int) clock.Sale { return s(0, 1, n, 1, 9) }},
		{1, api.MaxUnits, func(n int) clock.Sale { return s(0, 1, 1, n, 9) }},
		{1, api.MaxCoin, func(n int) clock.Sale { return s(0, 1, 1, 1, n) }},
	} {
		for _, n := range beyond(x.low, x.high) {
			bad[api.ErrFail] = append(bad[api.ErrFail], []clock.Sale{x.of(n)}, []clock.Sale{s(0, 0, 0, 1, 10), x.of(n), s(1, 0, 0, 1, 10)})
		}
	}
	return bad
}

// longList is a list of so many sales; of the pair, as long as there are ticks.
func longList(n int) []clock.Sale {
	var l []clock.Sale
	for lot := range api.MaxLots {
		for tick := range 10 {
			for buyer := range 2 {
				l = append(l, s(lot, tick, buyer, 1, 10-tick))
			}
		}
	}
	for tick := 10; len(l) < n; tick++ {
		for buyer := range api.MaxBuyers {
			l = append(l, s(api.MaxLots-1, tick, buyer, 1, 1))
		}
	}
	return l[:n]
}

// The calls that have no result.

func askedRun(t *testing.T, a clock.Auction, l []clock.Press, want api.Errno) {
	t.Helper()
	if sales, left, credit, e := clock.Run(a, l); e != want || sales != nil || left != nil || credit != nil {
		t.Errorf("Run of %v, %v: %v, %v, %v, %v, not %v", a, l, sales, left, credit, e, want)
	}
}

func askedWait(t *testing.T, a clock.Auction, l []clock.Press, x clock.Press, want api.Errno) {
	t.Helper()
	if n, e := clock.Wait(a, l, x); e != want || n != 0 {
		t.Errorf("Wait of %v, %v, %v: %d, %v, not %v", a, l, x, n, e, want)
	}
}

func askedSettle(t *testing.T, a clock.Auction, sales []clock.Sale, want api.Errno) {
	t.Helper()
	if x, e := clock.Settle(a, sales); e != want || x.Pays != nil || x.Gets != nil || x.Fees != 0 {
		t.Errorf("Settle of %v, %v: %v, %v, not %v", a, sales, x, e, want)
	}
}

func askedWrite(t *testing.T, sales []clock.Sale, want api.Errno) {
	t.Helper()
	if b, e := clock.Write(sales); e != want || b != nil {
		t.Errorf("Write of %v: %q, %v, not %v", sales, b, e, want)
	}
}

func askedRead(t *testing.T, b string, want api.Errno) {
	t.Helper()
	if sales, e := clock.Read([]byte(b)); e != want || sales != nil {
		t.Errorf("Read of %q: %v, %v, not %v", b, sales, e, want)
	}
}

// The calls that have one.

// runs asks for the sales, with the presses in some orders.
func runs(t *testing.T, a clock.Auction, l []clock.Press, want result) {
	t.Helper()
	for range 2 {
		sales, left, credit, e := clock.Run(a, l)
		if got := (result{sales, left, credit}); e != api.OK || !got.isSame(want) {
			t.Errorf("Run of %v, %v: %v, %v, not %v", a, l, got, e, want)
		}
		proves(t, a, l, want.sales, true)
		l = slices.Clone(l)
		slices.Reverse(l)
	}
}

// sells asks for the sales alone, and takes what is left from them.
func sells(t *testing.T, a clock.Auction, l []clock.Press, sales ...clock.Sale) {
	t.Helper()
	want := result{sales: sales}
	for _, x := range a.Lots {
		want.left = append(want.left, x.Units)
	}
	for _, x := range a.Buyers {
		want.credit = append(want.credit, x.Credit)
	}
	for _, x := range sales {
		want.left[x.Lot] -= x.Units
		want.credit[x.Buyer] -= x.Units * x.Price
	}
	runs(t, a, l, want)
}

func proves(t *testing.T, a clock.Auction, l []clock.Press, sales []clock.Sale, want bool) {
	t.Helper()
	if clock.ProveSales(a, l, sales) != want {
		t.Errorf("ProveSales of %v, %v, %v is not %v", a, l, sales, want)
	}
}

func waits(t *testing.T, a clock.Auction, l []clock.Press, x clock.Press, want int) {
	t.Helper()
	if n, e := clock.Wait(a, l, x); e != api.OK || n != want {
		t.Errorf("Wait of %v, %v, %v: %d, %v, not %d", a, l, x, n, e, want)
	}
}

func settles(t *testing.T, a clock.Auction, sales []clock.Sale, want clock.Accounts) {
	t.Helper()
	x, e := clock.Settle(a, sales)
	if e != api.OK || !slices.Equal(x.Pays, want.Pays) || !slices.Equal(x.Gets, want.Gets) || x.Fees != want.Fees {
		t.Errorf("Settle of %v, %v: %v, %v, not %v", a, sales, x, e, want)
	}
}

// files asks for the file of the sales, and for the sales of the file.
func files(t *testing.T, sales []clock.Sale, want string) {
	t.Helper()
	if b, e := clock.Write(sales); e != api.OK || string(b) != want {
		t.Errorf("Write of %v: %q, %v, not %q", sales, b, e, want)
	}
	if l, e := clock.Read([]byte(want)); e != api.OK || !slices.Equal(l, sales) {
		t.Errorf("Read of %q: %v, %v, not %v", want, l, e, sales)
	}
}

// P9.1

func TestCheckAuction(t *testing.T) {
	for _, a := range append(variants(false), hall(), pair(), full(), three(), rich(1, 1, 0)) {
		if e := clock.CheckAuction(a); e != api.OK {
			t.Errorf("CheckAuction of %v: %v", a, e)
		}
	}
	for _, x := range badAuctions() {
		if e := clock.CheckAuction(x.a); e != x.want {
			t.Errorf("CheckAuction of %v: %v, not %v", x.a, e, x.want)
		}
	}
}

// TestRefusedAuctions has auctions that no call takes, whatever is asked of them.
func TestRefusedAuctions(t *testing.T) {
	for _, x := range badAuctions() {
		for _, l := range [][]clock.Press{nil, {p(0, 0, 0, 1)}, {p(9, 9, 9, 0)}, make([]clock.Press, api.MaxPresses+1)} {
			askedRun(t, x.a, l, x.want)
			askedWait(t, x.a, l, p(0, 0, 0, 1), x.want)
			askedWait(t, x.a, l, p(9, 9, 9, 0), x.want)
			proves(t, x.a, l, nil, false)
		}
		for _, sales := range [][]clock.Sale{nil, {s(0, 0, 0, 1, 6)}, {{}}, make([]clock.Sale, api.MaxSales+1)} {
			askedSettle(t, x.a, sales, x.want)
		}
	}
}

func TestRefusedPresses(t *testing.T) {
	for want, lists := range badPresses() {
		for _, l := range lists {
			askedRun(t, hall(), l, want)
			proves(t, hall(), l, nil, false)
			proves(t, hall(), l, sold(), false)
			for _, x := range []clock.Press{p(0, 0, 2, 2), p(1, 0, 0, 1), p(0, 0, 1, 20), p(0, 0, 2, 11)} {
				askedWait(t, hall(), l, x, want)
			}
		}
	}
	runs(t, hall(), slices.Repeat(usual(), api.MaxPresses/3), result{sold(), []int{0}, []int{44, 4, 978}})
	sells(t, hall(), []clock.Press{p(0, api.MaxTick, 2, api.MaxUnits)})
}

func TestRun(t *testing.T) {
	runs(t, hall(), usual(), result{sold(), []int{0}, []int{44, 4, 978}})
	runs(t, hall(), nil, result{nil, []int{10}, []int{100, 60, 1000}})
	runs(t, pair(), []clock.Press{p(0, 1, 0, 5), p(1, 2, 0, 6), p(1, 9, 1, 9)}, result{[]clock.Sale{s(0, 1, 0, 5, 9), s(1, 9, 1, 6, 1)}, []int{0, 0}, []int{0, 194}})
	runs(t, full(), []clock.Press{p(7, 0, 5, 1000), p(0, 0, 0, 1000)}, result{
		[]clock.Sale{s(0, 0, 0, 1000, 10000), s(7, 0, 5, 1000, 10000)},
		[]int{0, 1000, 1000, 1000, 1000, 1000, 1000, 0},
		[]int{0, 10000000, 10000000, 10000000, 10000000, 0},
	})
	// The price at each tick, down to the Floor, and nothing below it.
	for tick := range api.MaxTick + 1 {
		l := []clock.Press{p(0, tick, 2, 2)}
		if tick > 5 {
			sells(t, hall(), l)
			continue
		}
		sells(t, hall(), l, s(0, tick, 2, 2, 20-3*tick))
		above := hall()
		above.Lots[0].Floor = 20 - 3*tick
		sells(t, above, l, s(0, tick, 2, 2, 20-3*tick))
		if tick > 0 {
			above.Lots[0].Floor++
			sells(t, above, l)
		}
	}
	// The last tick of all, at which the clock still stands far above the Floor.
	long := rich(9, 1, 0)
	long.Lots[0].Start = 200
	sells(t, long, []clock.Press{p(0, 99, 0, 3), p(0, 98, 0, 2)}, s(0, 98, 0, 2, 102), s(0, 99, 0, 3, 101))
}

// TestTrust has presses at the same tick.
func TestTrust(t *testing.T) {
	for _, x := range []struct {
		name  string
		a     clock.Auction
		l     []clock.Press
		sales []clock.Sale
	}{
		{"the lesser index", rich(5, 1, 3, 3, 3), []clock.Press{p(0, 1, 2, 2), p(0, 1, 0, 2), p(0, 1, 1, 2)}, []clock.Sale{s(0, 1, 0, 2, 8), s(0, 1, 1, 2, 8), s(0, 1, 2, 1, 8)}},
		{"more trust", rich(5, 1, 0, 1, 2), []clock.Press{p(0, 1, 2, 2), p(0, 1, 0, 2), p(0, 1, 1, 2)}, []clock.Sale{s(0, 1, 2, 2, 8), s(0, 1, 1, 2, 8), s(0, 1, 0, 1, 8)}},
		{"more trust, then the lesser index", rich(9, 1, 7, 100, 7, 100, 0), []clock.Press{p(0, 0, 0, 1), p(0, 0, 1, 1), p(0, 0, 2, 1), p(0, 0, 3, 1), p(0, 0, 4, 1)}, []clock.Sale{s(0, 0, 1, 1, 9), s(0, 0, 3, 1, 9), s(0, 0, 0, 1, 9), s(0, 0, 2, 1, 9), s(0, 0, 4, 1, 9)}},
		{"who wants more is not first", rich(5, 1, 1, 1), []clock.Press{p(0, 1, 1, 5), p(0, 1, 0, 1)}, []clock.Sale{s(0, 1, 0, 1, 8), s(0, 1, 1, 4, 8)}},
		{"an earlier tick is ahead of trust", rich(5, 1, 0, 100), []clock.Press{p(0, 2, 1, 5), p(0, 1, 0, 4)}, []clock.Sale{s(0, 1, 0, 4, 8), s(0, 2, 1, 1, 7)}},
		{"an earlier tick is ahead of the index", rich(5, 1, 0, 0), []clock.Press{p(0, 2, 0, 5), p(0, 1, 1, 4)}, []clock.Sale{s(0, 1, 1, 4, 8), s(0, 2, 0, 1, 7)}},
		{"the most alone", rich(9, 1, 0, 0), []clock.Press{p(0, 1, 0, 2), p(0, 1, 0, 4), p(0, 1, 0, 3), p(0, 1, 1, 9)}, []clock.Sale{s(0, 1, 0, 4, 8), s(0, 1, 1, 5, 8)}},
		{"the same is one", rich(9, 1, 0, 0), []clock.Press{p(0, 1, 0, 2), p(0, 1, 0, 2), p(0, 1, 1, 2), p(0, 1, 0, 2)}, []clock.Sale{s(0, 1, 0, 2, 8), s(0, 1, 1, 2, 8)}},
		{"at another tick it counts, too", rich(9, 1, 0, 0), []clock.Press{p(0, 1, 0, 2), p(0, 2, 0, 4), p(0, 3, 0, 1)}, []clock.Sale{s(0, 1, 0, 2, 8), s(0, 2, 0, 4, 7), s(0, 3, 0, 1, 6)}},
	} {
		sells(t, x.a, x.l, x.sales...)
		if t.Failed() {
			t.Fatal(x.name)
		}
	}
	both := rich(9, 1, 0)
	both.Lots = append(both.Lots, both.Lots[0])
	sells(t, both, []clock.Press{p(1, 1, 0, 2), p(0, 1, 0, 4)}, s(0, 1, 0, 4, 8), s(1, 1, 0, 2, 8)) // for another lot, too
}

// TestLeast has presses that get less than they want, or nothing.
func TestLeast(t *testing.T) {
	for _, x := range []struct {
		name  string
		a     clock.Auction
		l     []clock.Press
		sales []clock.Sale
	}{
		{"as few as can be", rich(9, 3, 0), []clock.Press{p(0, 1, 0, 3)}, []clock.Sale{s(0, 1, 0, 3, 8)}},
		{"too few", rich(9, 3, 0), []clock.Press{p(0, 1, 0, 2)}, nil},
		{"the last ones", rich(9, 3, 0, 0), []clock.Press{p(0, 1, 0, 7), p(0, 2, 1, 2)}, []clock.Sale{s(0, 1, 0, 7, 8), s(0, 2, 1, 2, 7)}},
		{"the last ones, of more that it wants", rich(9, 3, 0, 0), []clock.Press{p(0, 1, 0, 7), p(0, 2, 1, 8)}, []clock.Sale{s(0, 1, 0, 7, 8), s(0, 2, 1, 2, 7)}},
		{"not all of the last ones", rich(9, 3, 0, 0), []clock.Press{p(0, 1, 0, 7), p(0, 2, 1, 1)}, []clock.Sale{s(0, 1, 0, 7, 8)}},
		{"as many as the least, and some are left", rich(9, 3, 0, 0), []clock.Press{p(0, 1, 0, 4), p(0, 2, 1, 3)}, []clock.Sale{s(0, 1, 0, 4, 8), s(0, 2, 1, 3, 7)}},
		{"nothing is left", rich(9, 3, 0, 0), []clock.Press{p(0, 1, 0, 9), p(0, 1, 1, 1), p(0, 2, 1, 3)}, []clock.Sale{s(0, 1, 0, 9, 8)}},
		{"all or nothing", rich(9, 9, 0, 0), []clock.Press{p(0, 1, 0, 8), p(0, 2, 0, 8), p(0, 3, 1, 10)}, []clock.Sale{s(0, 3, 1, 9, 6)}},
		{"who gets nothing does not stop others", rich(9, 3, 5, 4), []clock.Press{p(0, 1, 0, 2), p(0, 1, 1, 4)}, []clock.Sale{s(0, 1, 1, 4, 8)}},
	} {
		sells(t, x.a, x.l, x.sales...)
		if t.Failed() {
			t.Fatal(x.name)
		}
	}
}

// TestCredit has a lot of nine units, at 9 coins first, and a buyer with so much.
func TestCredit(t *testing.T) {
	for _, x := range []struct {
		name          string
		credit, least int
		l             []clock.Press
		sales         []clock.Sale
	}{
		{"just enough", 24, 1, []clock.Press{p(0, 1, 0, 3)}, []clock.Sale{s(0, 1, 0, 3, 8)}},
		{"one coin too few", 23, 1, []clock.Press{p(0, 1, 0, 3)}, []clock.Sale{s(0, 1, 0, 2, 8)}},
		{"one more", 31, 1, []clock.Press{p(0, 1, 0, 9)}, []clock.Sale{s(0, 1, 0, 3, 8)}},
		{"too few for the least", 23, 3, []clock.Press{p(0, 1, 0, 3)}, nil},
		{"enough for the least, later", 23, 3, []clock.Press{p(0, 1, 0, 3), p(0, 2, 0, 3)}, []clock.Sale{s(0, 2, 0, 3, 7)}},
		{"nothing", 0, 1, []clock.Press{p(0, 1, 0, 3), p(0, 8, 0, 1)}, nil},
		{"less than the price", 7, 1, []clock.Press{p(0, 1, 0, 3)}, nil},
		{"what is left", 30, 1, []clock.Press{p(0, 1, 0, 2), p(0, 2, 0, 9), p(0, 8, 0, 5)}, []clock.Sale{s(0, 1, 0, 2, 8), s(0, 2, 0, 2, 7)}},
		{"what is left in the end", 31, 1, []clock.Press{p(0, 1, 0, 2), p(0, 2, 0, 9), p(0, 8, 0, 5)}, []clock.Sale{s(0, 1, 0, 2, 8), s(0, 2, 0, 2, 7), s(0, 8, 0, 1, 1)}},
	} {
		a := rich(9, x.least, 0)
		a.Buyers[0].Credit = x.credit
		sells(t, a, x.l, x.sales...)
		if t.Failed() {
			t.Fatal(x.name)
		}
	}
	// The last units are paid for by what is left of the credit.
	a := rich(9, 3, 0, 0)
	a.Buyers[1].Credit = 15
	sells(t, a, []clock.Press{p(0, 1, 0, 7), p(0, 2, 1, 3)}, s(0, 1, 0, 7, 8), s(0, 2, 1, 2, 7))
	a.Buyers[1].Credit = 13
	sells(t, a, []clock.Press{p(0, 1, 0, 7), p(0, 2, 1, 3)}, s(0, 1, 0, 7, 8))
	// What is paid for one lot is not there for the next one.
	sells(t, pair(), []clock.Press{p(0, 1, 0, 4), p(1, 2, 0, 6)}, s(0, 1, 0, 4, 9), s(1, 2, 0, 1, 8))
	sells(t, pair(), []clock.Press{p(0, 1, 0, 2), p(1, 2, 0, 6)}, s(1, 2, 0, 5, 8))
}

// P9.2

func TestProveSales(t *testing.T) {
	a := hall()
	proves(t, a, usual(), sold(), true)
	proves(t, a, nil, nil, true)
	proves(t, a, usual(), nil, false)
	proves(t, a, nil, sold(), false)
	proves(t, a, usual(), sold()[:2], false)
	proves(t, a, usual(), sold()[1:], false)
	proves(t, a, usual(), append(sold(), s(0, 4, 0, 1, 8)), false)
	proves(t, a, usual(), append(sold(), clock.Sale{}), false)
	proves(t, a, usual(), slices.Repeat(sold(), 1000), false)
	other := sold()
	other[0], other[1] = other[1], other[0]
	proves(t, a, usual(), other, false)
	for n := range sold() {
		for _, set := range []func(x *clock.Sale){
			func(x *clock.Sale) { x.Lot++ }, func(x *clock.Sale) { x.Tick-- }, func(x *clock.Sale) { x.Buyer = (x.Buyer + 1) % 3 },
			func(x *clock.Sale) { x.Units-- }, func(x *clock.Sale) { x.Units++ }, func(x *clock.Sale) { x.Price++ },
		} {
			other := sold()
			set(&other[n])
			proves(t, a, usual(), other, false)
		}
	}
	a.Buyers[1].Trust = 5
	proves(t, a, usual(), sold(), false)
	proves(t, a, usual(), []clock.Sale{s(0, 2, 0, 4, 14), s(0, 2, 1, 4, 14), s(0, 3, 2, 2, 11)}, true)
}

// P9.3

func TestWait(t *testing.T) {
	a := hall()
	waits(t, a, usual(), p(0, 0, 2, 2), 5)
	waits(t, a, usual(), p(0, 0, 2, 6), 1)
	waits(t, a, usual(), p(0, 0, 2, 10), 1)
	askedWait(t, a, usual(), p(0, 0, 2, 11), api.ErrNone)
	askedWait(t, a, usual(), p(0, 0, 1, 20), api.ErrDebt)
	waits(t, a, usual(), p(0, 0, 1, 5), 3)
	waits(t, a, nil, p(0, 0, 2, 10), 5)
	waits(t, a, nil, p(0, 0, 1, 10), 5)
	waits(t, a, nil, p(0, 0, 1, 2), 5)
	for _, tick := range []int{-1, 0, 3, 99, 100, math.MinInt, math.MaxInt} {
		waits(t, a, usual(), p(0, tick, 2, 6), 1)
		waits(t, a, usual(), p(0, tick, 2, 2), 5)
	}
	for _, x := range []clock.Press{p(-1, 0, 2, 2), p(1, 0, 2, 2), p(0, 0, -1, 2), p(0, 0, 3, 2), p(0, 0, 2, 0), p(0, 0, 2, -1), p(0, 0, 2, 1001)} {
		askedWait(t, a, usual(), x, api.ErrRange)
	}
	for _, n := range []int{math.MinInt, math.MaxInt} {
		for _, x := range []clock.Press{p(n, 0, 2, 2), p(0, 0, n, 2), p(0, 0, 2, n)} {
			askedWait(t, a, usual(), x, api.ErrRange)
		}
	}
	// The last tick of all.
	long := rich(9, 1, 0, 0)
	long.Lots[0].Start = 200
	waits(t, long, nil, p(0, 0, 0, 9), 99)
	waits(t, long, []clock.Press{p(0, 99, 1, 1)}, p(0, 0, 0, 9), 99)
	waits(t, long, []clock.Press{p(0, 98, 1, 1)}, p(0, 0, 0, 9), 98)
	waits(t, long, []clock.Press{p(0, 0, 1, 1)}, p(0, 0, 0, 8), 99)
	askedWait(t, long, []clock.Press{p(0, 0, 1, 1)}, p(0, 0, 1, 1000), api.ErrNone)
}

// TestWaitForRivals has others who press for the same lot, or the same buyer.
func TestWaitForRivals(t *testing.T) {
	a := rich(9, 1, 5, 6, 5)
	for _, x := range []struct {
		name string
		l    []clock.Press
		p    clock.Press
		want int
	}{
		{"nobody", nil, p(0, 0, 0, 9), 8},
		{"more trust at the tick", []clock.Press{p(0, 4, 1, 1)}, p(0, 0, 0, 9), 3},
		{"less trust at the tick", []clock.Press{p(0, 4, 0, 1)}, p(0, 0, 1, 9), 4},
		{"the lesser index at the tick", []clock.Press{p(0, 4, 0, 1)}, p(0, 0, 2, 9), 3},
		{"the greater index at the tick", []clock.Press{p(0, 4, 2, 1)}, p(0, 0, 0, 9), 4},
		{"enough is left", []clock.Press{p(0, 2, 1, 3), p(0, 5, 2, 3)}, p(0, 0, 0, 3), 8},
		{"enough is left up to then", []clock.Press{p(0, 2, 1, 3), p(0, 5, 2, 3)}, p(0, 0, 0, 4), 5},
		{"too little is left then", []clock.Press{p(0, 2, 1, 3), p(0, 5, 2, 3)}, p(0, 0, 0, 7), 1},
		{"itself", []clock.Press{p(0, 1, 0, 9)}, p(0, 1, 0, 9), 8},
		{"others of the buyer", []clock.Press{p(0, 1, 0, 9), p(0, 3, 0, 4), p(0, 3, 1, 1), p(0, 8, 0, 9)}, p(0, 0, 0, 9), 2},
		{"more of the buyer at the tick", []clock.Press{p(0, 8, 0, 9)}, p(0, 0, 0, 2), 8},
	} {
		waits(t, a, x.l, x.p, x.want)
		if t.Failed() {
			t.Fatal(x.name)
		}
	}
	askedWait(t, a, []clock.Press{p(0, 0, 1, 1)}, p(0, 0, 0, 9), api.ErrNone)
	waits(t, a, []clock.Press{p(0, 0, 2, 1)}, p(0, 0, 0, 9), 0)
	// As many as there can be, and one more.
	waits(t, a, slices.Repeat([]clock.Press{p(0, 6, 1, 1)}, api.MaxPresses), p(0, 0, 0, 9), 5)
	// Too few units are only sold as the last ones.
	a.Lots[0].Least = 3
	askedWait(t, a, nil, p(0, 0, 0, 2), api.ErrNone)
	waits(t, a, []clock.Press{p(0, 3, 1, 7), p(0, 6, 2, 1)}, p(0, 0, 0, 2), 8)
	waits(t, a, []clock.Press{p(0, 3, 1, 7), p(0, 6, 2, 2)}, p(0, 0, 0, 2), 6)
	waits(t, a, []clock.Press{p(0, 3, 1, 6), p(0, 6, 2, 2)}, p(0, 0, 0, 3), 8)
	askedWait(t, a, []clock.Press{p(0, 3, 1, 6), p(0, 6, 2, 2)}, p(0, 0, 0, 2), api.ErrNone)
}

// TestWaitForCredit has buyers who can pay only for some prices.
func TestWaitForCredit(t *testing.T) {
	a := rich(9, 1, 0, 9)
	a.Lots[0].Floor = 3 // at the tick 6
	for credit, want := range map[int]api.Errno{0: api.ErrDebt, 2: api.ErrDebt, 14: api.ErrDebt, 15: api.OK, 45: api.OK, 1000: api.OK} {
		a.Buyers[0].Credit = credit
		if want != api.OK {
			askedWait(t, a, nil, p(0, 0, 0, 5), want)
			askedWait(t, a, []clock.Press{p(0, 0, 1, 9)}, p(0, 0, 0, 5), want)
			continue
		}
		waits(t, a, nil, p(0, 0, 0, 5), 6)
		askedWait(t, a, []clock.Press{p(0, 0, 1, 9)}, p(0, 0, 0, 5), api.ErrNone)
	}
	a.Buyers[0].Credit = 30 // it pays for five from the tick 3 on
	waits(t, a, []clock.Press{p(0, 4, 1, 5)}, p(0, 0, 0, 5), 3)
	askedWait(t, a, []clock.Press{p(0, 3, 1, 5)}, p(0, 0, 0, 5), api.ErrNone)
	// The clock stands at no lower price than that of its last tick.
	long := rich(9, 1, 0)
	long.Lots[0].Start, long.Buyers[0].Credit = 200, 201
	askedWait(t, long, nil, p(0, 0, 0, 2), api.ErrDebt)
	long.Buyers[0].Credit = 202
	waits(t, long, nil, p(0, 0, 0, 2), 99)
	// What the buyer pays for the first lot counts, but not for whether it is in debt.
	two := pair()
	waits(t, two, nil, p(1, 0, 0, 6), 9)
	waits(t, two, []clock.Press{p(0, 1, 0, 4)}, p(1, 0, 0, 6), 9)
	waits(t, two, []clock.Press{p(0, 1, 0, 4), p(1, 8, 1, 1)}, p(1, 0, 0, 5), 9)
	waits(t, two, []clock.Press{p(1, 8, 1, 1)}, p(1, 0, 0, 6), 8)
	askedWait(t, two, []clock.Press{p(0, 1, 0, 4), p(1, 8, 1, 1)}, p(1, 0, 0, 6), api.ErrNone)
	askedWait(t, two, []clock.Press{p(0, 0, 0, 4)}, p(1, 0, 0, 6), api.ErrNone)
	askedWait(t, two, []clock.Press{p(0, 0, 0, 4)}, p(1, 0, 0, 46), api.ErrDebt)
	waits(t, two, []clock.Press{p(1, 0, 0, 4)}, p(0, 0, 0, 5), 2) // a later lot does not
}

// P9.4

// gets is what the sellers get, of which some get something.
func gets(some map[int]int) []int {
	l := make([]int, api.MaxSeller+1)
	for seller, n := range some {
		l[seller] = n
	}
	return l
}

func TestSettle(t *testing.T) {
	settles(t, hall(), sold(), clock.Accounts{Pays: []int{56, 56, 22}, Gets: gets(map[int]int{1: 129}), Fees: 5})
	settles(t, hall(), nil, clock.Accounts{Pays: []int{0, 0, 0}, Gets: gets(nil)})
	settles(t, pair(), []clock.Sale{s(0, 1, 0, 5, 9), s(1, 9, 1, 6, 1)}, clock.Accounts{Pays: []int{45, 6}, Gets: gets(map[int]int{0: 41, 9: 6}), Fees: 4})
	// A fee is rounded down for each sale, and not for all of a seller or buyer.
	for fee, want := range map[int]int{0: 0, 1: 0, 99: 0, 100: 3, 199: 3, 200: 6, 250: 6, 999: 27, 1000: 30} {
		a := pair()
		a.Fee = fee
		settles(t, a, []clock.Sale{s(0, 0, 0, 1, 10), s(0, 0, 1, 1, 10), s(1, 0, 0, 1, 10)}, clock.Accounts{Pays: []int{20, 10}, Gets: gets(map[int]int{0: 20 - want/3*2, 9: 10 - want/3}), Fees: want})
	}
	// Two lots of the same seller, and all sellers.
	a := full()
	var sales []clock.Sale
	for lot := range a.Lots {
		sales = append(sales, s(lot, 0, 5, 1000, 10000))
	}
	settles(t, a, sales, clock.Accounts{Pays: []int{0, 0, 0, 0, 0, 80000000}, Gets: gets(nil), Fees: 80000000})
	a.Fee = 125
	settles(t, a, sales, clock.Accounts{Pays: []int{0, 0, 0, 0, 0, 80000000}, Gets: gets(map[int]int{9: 70000000}), Fees: 10000000})
	for seller := range api.MaxSeller + 1 {
		a := hall()
		a.Lots[0].Seller = seller
		settles(t, a, sold(), clock.Accounts{Pays: []int{56, 56, 22}, Gets: gets(map[int]int{seller: 129}), Fees: 5})
	}
}

// TestSettleAny has sales that the auction does not make: of more than there is
// and than can be paid, fewer than the least, and below the Floor.
func TestSettleAny(t *testing.T) {
	a := hall()
	a.Fee = 0
	settles(t, a, []clock.Sale{s(0, 0, 1, 1, 20), s(0, 1, 1, 1000, 17), s(0, 6, 0, 1, 2)}, clock.Accounts{Pays: []int{2, 17020, 0}, Gets: gets(map[int]int{1: 17022})})
	sales := longList(api.MaxSales)[:2*2*10]
	settles(t, pair(), sales, modelSettle(pair(), sales))
}

func TestRefusedSales(t *testing.T) {
	for want, lists := range badSales() {
		for _, sales := range lists {
			askedSettle(t, pair(), sales, want)
			askedWrite(t, sales, want)
			askedRead(t, modelFile(sales[:min(len(sales), 220)]), api.ErrForm)
		}
	}
	for _, x := range []clock.Sale{
		s(2, 0, 0, 1, 10), s(7, 0, 0, 1, 10), s(0, 0, 2, 1, 10), s(0, 0, 5, 1, 10), // which the pair has not
		s(0, 0, 0, 1, 9), s(0, 0, 0, 1, 11), s(0, 1, 0, 1, 10), s(0, 1, 0, 1, 8), s(1, 9, 0, 1, 10), s(1, 9, 0, 1, 2), s(1, 10, 0, 1, 1), s(1, 99, 0, 1, 1),
	} {
		askedSettle(t, pair(), []clock.Sale{x}, api.ErrFail)
		files(t, []clock.Sale{x}, modelFile([]clock.Sale{x}))
		before := s(0, 0, 1, 1, 10)
		askedSettle(t, pair(), []clock.Sale{before, x}, api.ErrFail)
	}
}

// P9.5

func TestFile(t *testing.T) {
	files(t, sold(), "0 2 1 4 14\n0 2 0 4 14\n0 3 2 2 11\n")
	files(t, nil, "")
	files(t, []clock.Sale{s(0, 0, 0, 1, 1)}, "0 0 0 1 1\n")
	files(t, []clock.Sale{s(7, 99, 5, 1000, 10000)}, "7 99 5 1000 10000\n")
	files(t, []clock.Sale{s(0, 9, 0, 1, 1), s(1, 3, 0, 1, 9), s(1, 3, 5, 1, 1), s(1, 3, 2, 7, 4), s(1, 10, 0, 1, 8)}, "0 9 0 1 1\n1 3 0 1 9\n1 3 5 1 1\n1 3 2 7 4\n1 10 0 1 8\n")
	for _, n := range []int{1, 60, 199, 200} {
		files(t, longList(n), modelFile(longList(n)))
	}
	askedRead(t, modelFile(longList(201)), api.ErrForm)
	for n := range 3 { // the same buyer may come at another lot, and at another tick
		files(t, []clock.Sale{s(0, 1, n, 1, 1), s(0, 2, n, 1, 1), s(1, 1, n, 1, 1), s(1, 2, n, 1, 1)}, modelFile([]clock.Sale{s(0, 1, n, 1, 1), s(0, 2, n, 1, 1), s(1, 1, n, 1, 1), s(1, 2, n, 1, 1)}))
	}
}

func TestReadNoFile(t *testing.T) {
	for _, bad := range []string{
		"0 2 1 4 14", "0 2 1 4 14\n0 2 0 4 14", "\n", "\n0 2 1 4 14\n", "0 2 1 4 14\n\n", "0 2 1 4 14\n\n0 2 0 4 14\n", " ", "    \n", "0", "x",
		"0 2 1 4\n", "0 2 1 4 \n", "0 2 1 4 14 1\n", "0 2 1 4 14 \n", " 0 2 1 4 14\n", "0  2 1 4 14\n", "0\t2 1 4 14\n", "0 2 1\n4 14\n", "0 2 1 4 14 0 2 0 4 14\n",
		"0 2 1 4 014\n", "00 2 1 4 14\n", "0 02 1 4 14\n", "0 2 1 4 +14\n", "-0 2 1 4 14\n", "+0 2 1 4 14\n", "0 -2 1 4 14\n", "0 2 1 4 -14\n", "0 2 1 4 1_4\n", "0 2 1 4 0xe\n", "0 2 1 4 14.\n", "0 2 1 4 1e1\n", "0 2 a 4 14\n",
		"8 2 1 4 14\n", "-1 2 1 4 14\n", "0 100 1 4 14\n", "0 2 6 4 14\n", "0 2 1 0 14\n", "0 2 1 1001 14\n", "0 2 1 4 0\n", "0 2 1 4 10001\n", "0 2 1 4 99999999999999999999\n", "0 2 1 4 18446744073709551630\n",
		"0 2 1 4 14\n0 2 1 4 14\n", "0 2 1 4 14\n0 2 1 5 14\n", "0 3 1 4 14\n0 2 1 4 14\n", "1 2 1 4 14\n0 3 1 4 14\n",
		"0 2 1 4 14\r\n", "0 2 1 4 14\n\x00", "\x00", "0 2 1 4 14\n0 2 0 4", "\xff\xfe", "0 2 1 4 \u0661\n", "\u00a00 2 1 4 14\n",
		strings.Repeat("\n", api.MaxFile), strings.Repeat(" ", api.MaxFile), strings.Repeat("0", api.MaxFile), strings.Repeat("0 2 1 4 14\n", 400),
	} {
		askedRead(t, bad, api.ErrForm)
	}
	for _, n := range []int{api.MaxFile + 1, 100000} {
		askedRead(t, strings.Repeat("0", n), api.ErrLimit)
		askedRead(t, strings.Repeat("0 2 1 4 14\n", n)[:n], api.ErrLimit)
	}
	if b := modelFile(longList(api.MaxSales)); len(b) > api.MaxFile {
		t.Errorf("a file of %d bytes", len(b))
	}
}

// P9.1 to P9.5

// TestModel holds the calls against the model.
func TestModel(t *testing.T) {
	eachAuction(t, 900, allShapes(), func(r *rand.Rand, a clock.Auction, l []clock.Press, x shape) {
		want := modelRun(a, l)
		runs(t, a, l, want)
		settles(t, a, want.sales, modelSettle(a, want.sales))
		files(t, want.sales, modelFile(want.sales))
	})
	eachSales(t, 300, func(r *rand.Rand, a clock.Auction, sales []clock.Sale) {
		settles(t, a, sales, modelSettle(a, sales))
		files(t, sales, modelFile(sales))
	})
}

func TestModelWait(t *testing.T) {
	asks := func(a clock.Auction, l []clock.Press, next clock.Press) {
		if n, e := modelWait(a, l, next); e != api.OK {
			askedWait(t, a, l, next, e)
		} else {
			waits(t, a, l, next, n)
		}
	}
	eachWait(t, 900, small, asks)
	eachWait(t, 30, great, asks)
}

// TestModelRead changes files a little: those that are none any more are refused,
// and the others are read as what they tell.
func TestModelRead(t *testing.T) {
	bytes := []byte("0123456789 \n-+x")
	refused, read := 0, 0
	eachSales(t, 3000, func(r *rand.Rand, a clock.Auction, sales []clock.Sale) {
		b := []byte(modelFile(sales[:min(len(sales), 4)]))
		for range upTo(r, 2) {
			at := r.Intn(len(b) + 1)
			switch r.Intn(3) {
			case 0:
				b = slices.Insert(b, at, bytes[r.Intn(len(bytes))])
			case 1:
				b = slices.Delete(b, at, min(at+1, len(b)))
			default:
				b = append(b[:at:at], append([]byte{bytes[r.Intn(len(bytes))]}, b[min(at+1, len(b)):]...)...)
			}
		}
		want, is := modelRead(string(b))
		if !is {
			refused++
			askedRead(t, string(b), api.ErrForm)
			return
		}
		read++
		files(t, want, string(b))
	})
	if min(refused, read) < 300 {
		t.Errorf("%d were refused, %d were read", refused, read)
	}
}

// modelRead takes each word of each line as a number without a sign or a leading
// zero, and looks at each two sales.
func modelRead(b string) (sales []clock.Sale, is bool) {
	lines := strings.Split(b, "\n")
	if lines[len(lines)-1] != "" {
		return nil, false
	}
	for _, l := range lines[:len(lines)-1] {
		var numbers []int
		for _, word := range strings.Split(l, " ") {
			n, err := strconv.ParseUint(word, 10, 62)
			if err != nil || word != "0" && word[0] == '0' {
				return nil, false
			}
			numbers = append(numbers, int(n))
		}
		if len(numbers) != 5 {
			return nil, false
		}
		x := s(numbers[0], numbers[1], numbers[2], numbers[3], numbers[4])
		if x.Lot > 7 || x.Tick > 99 || x.Buyer > 5 || x.Units < 1 || x.Units > 1000 || x.Price < 1 || x.Price > 10000 {
			return nil, false
		}
		for _, other := range sales {
			if other.Lot > x.Lot || other.Lot == x.Lot && (other.Tick > x.Tick || other.Tick == x.Tick && other.Buyer == x.Buyer) {
				return nil, false
			}
		}
		sales = append(sales, x)
	}
	return sales, len(sales) <= 200
}

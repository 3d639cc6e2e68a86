package clock_test

import (
	"bytes"
	"math"
	"math/rand"
	"slices"
	"testing"

	"bybloem/api"
	"bybloem/clock"
)

func mustRun(t *testing.T, a clock.Auction, l []clock.Press) result {
	t.Helper()
	sales, left, credit, e := clock.Run(a, l)
	if e != api.OK || len(left) != len(a.Lots) || len(credit) != len(a.Buyers) {
		t.Fatalf("Run of %v, %v: %v, %v, %v, %v", a, l, sales, left, credit, e)
	}
	return result{sales, left, credit}
}

func mustSettle(t *testing.T, a clock.Auction, sales []clock.Sale) clock.Accounts {
	t.Helper()
	x, e := clock.Settle(a, sales)
	if e != api.OK || len(x.Pays) != len(a.Buyers) || len(x.Gets) != api.MaxSeller+1 {
		t.Fatalf("Settle of %v, %v: %v, %v", a, sales, x, e)
	}
	return x
}

func mustWrite(t *testing.T, sales []clock.Sale) []byte {
	t.Helper()
	b, e := clock.Write(sales)
	if e != api.OK || len(b) > api.MaxFile {
		t.Fatalf("Write of %v: %q, %v", sales, b, e)
	}
	return b
}

// without are the presses of which this is not so.
func without(l []clock.Press, is func(p clock.Press) bool) []clock.Press {
	return slices.DeleteFunc(slices.Clone(l), is)
}

func sum(l []int) int {
	all := 0
	for _, n := range l {
		all += n
	}
	return all
}

// P9.6

func TestAnyOrder(t *testing.T) {
	eachAuction(t, 900, allShapes(), func(r *rand.Rand, a clock.Auction, l []clock.Press, _ shape) {
		want := mustRun(t, a, l)
		turned := slices.Clone(l)
		for range r.Intn(api.MaxPresses + 1 - len(l)) {
			if len(l) > 0 {
				turned = append(turned, l[r.Intn(len(l))])
			}
		}
		r.Shuffle(len(turned), func(i, j int) { turned[i], turned[j] = turned[j], turned[i] })
		if got := mustRun(t, a, turned); !got.isSame(want) {
			t.Fatalf("Run of %v, %v: %v, and of %v: %v", a, l, want, turned, got)
		}
		proves(t, a, turned, want.sales, true)
	})
}

func TestWaitInAnyOrder(t *testing.T) {
	r := rand.New(rand.NewSource(10))
	eachWait(t, 300, allShapes(), func(a clock.Auction, l []clock.Press, next clock.Press) {
		n, e := clock.Wait(a, l, next)
		turned := slices.Clone(l)
		r.Shuffle(len(turned), func(i, j int) { turned[i], turned[j] = turned[j], turned[i] })
		next.Tick = r.Intn(300) - 100
		if other, f := clock.Wait(a, turned, next); other != n || f != e {
			t.Fatalf("Wait of %v, %v, %v: %d, %v, and of %v: %d, %v", a, l, next, n, e, turned, other, f)
		}
	})
}

// P9.7

func TestNobodyOwes(t *testing.T) {
	eachAuction(t, 900, allShapes(), func(r *rand.Rand, a clock.Auction, l []clock.Press, _ shape) {
		x := mustRun(t, a, l)
		credit, left := slices.Clone(x.credit), slices.Clone(x.left)
		for _, sold := range x.sales {
			credit[sold.Buyer] += sold.Units * sold.Price
			left[sold.Lot] += sold.Units
		}
		for buyer, b := range a.Buyers {
			if credit[buyer] != b.Credit || x.credit[buyer] < 0 {
				t.Fatalf("Run of %v, %v: %v, the buyer %d", a, l, x, buyer)
			}
		}
		for lot, y := range a.Lots {
			if left[lot] != y.Units || x.left[lot] < 0 {
				t.Fatalf("Run of %v, %v: %v, the lot %d", a, l, x, lot)
			}
		}
	})
}

// P9.8

func TestTheClockFalls(t *testing.T) {
	eachAuction(t, 900, allShapes(), func(r *rand.Rand, a clock.Auction, l []clock.Press, _ shape) {
		x := mustRun(t, a, l)
		for n, sold := range x.sales {
			y := a.Lots[sold.Lot]
			if n > 0 && x.sales[n-1].Lot == sold.Lot && x.sales[n-1].Price < sold.Price {
				t.Fatalf("Run of %v, %v: %v, and the price rises", a, l, x)
			}
			if sold.Price != modelPrice(a, sold.Lot, sold.Tick) || sold.Price < y.Floor {
				t.Fatalf("Run of %v, %v: %v, and the price is %d", a, l, x, sold.Price)
			}
			isLast := x.left[sold.Lot] == 0 && (n == len(x.sales)-1 || x.sales[n+1].Lot != sold.Lot)
			if sold.Units < 1 || sold.Units < y.Least && !isLast {
				t.Fatalf("Run of %v, %v: %v, and %d units are sold", a, l, x, sold.Units)
			}
		}
	})
}

// P9.9

// isBehind tells whether a press is served behind another one.
func isBehind(a clock.Auction, p, other clock.Press) bool {
	rank := func(x clock.Press) []int { return []int{x.Lot, x.Tick, -a.Buyers[x.Buyer].Trust, x.Buyer} }
	return slices.Compare(rank(p), rank(other)) > 0
}

func TestTrustFirst(t *testing.T) {
	eachAuction(t, 600, allShapes(), func(r *rand.Rand, a clock.Auction, l []clock.Press, x shape) {
		if len(l) == 0 {
			return
		}
		p := l[r.Intn(len(l))]
		ahead := without(l, func(other clock.Press) bool { return isBehind(a, other, p) })
		others := slices.Clone(ahead)
		for range r.Intn(api.MaxPresses + 1 - len(ahead)) {
			if next := randomPress(r, a, x); isBehind(a, next, p) {
				others = append(others, next)
			}
		}
		want := modelGot(mustRun(t, a, l).sales, p.Lot, p.Tick, p.Buyer)
		for _, some := range [][]clock.Press{ahead, others} {
			sales := mustRun(t, a, some).sales
			if got := modelGot(sales, p.Lot, p.Tick, p.Buyer); got != want {
				t.Fatalf("of %v, %v gets %d with %v, and %d with %v", a, p, want, l, got, some)
			}
		}
	})
}

// P9.10

func TestNothingForNothing(t *testing.T) {
	nothing := 0
	eachAuction(t, 900, allShapes(), func(r *rand.Rand, a clock.Auction, l []clock.Press, _ shape) {
		x := mustRun(t, a, l)
		for buyer := range a.Buyers {
			is := func(p clock.Press) bool { return p.Buyer == buyer }
			if slices.ContainsFunc(x.sales, func(sold clock.Sale) bool { return sold.Buyer == buyer }) || !slices.ContainsFunc(l, is) {
				continue
			}
			nothing++
			proves(t, a, without(l, is), x.sales, true)
		}
	})
	if nothing < 300 {
		t.Errorf("%d buyers got nothing", nothing)
	}
}

// P9.11

func TestWaiting(t *testing.T) {
	could := 0
	eachWait(t, 600, allShapes(), func(a clock.Auction, l []clock.Press, next clock.Press) {
		alone := modelAlone(l, next)
		if len(alone) > api.MaxPresses {
			return
		}
		last, e := clock.Wait(a, l, next)
		if e == api.OK {
			could++
		} else {
			last = -1
		}
		for tick := range api.MaxTick + 1 {
			alone[0].Tick = tick
			got := modelGot(mustRun(t, a, alone).sales, next.Lot, tick, next.Buyer)
			if tick == last && got != next.Wants || tick > last && got == next.Wants {
				t.Fatalf("Wait of %v, %v, %v: %d, %v, and at the tick %d it gets %d", a, l, next, last, e, tick, got)
			}
		}
	})
	if could < 200 {
		t.Errorf("%d could wait", could)
	}
}

// P9.12

func TestFirstLots(t *testing.T) {
	eachAuction(t, 600, allShapes(), func(r *rand.Rand, a clock.Auction, l []clock.Press, x shape) {
		n := r.Intn(len(a.Lots))
		others := without(l, func(p clock.Press) bool { return p.Lot > n })
		for range r.Intn(api.MaxPresses + 1 - len(others)) {
			if next := randomPress(r, a, x); next.Lot > n {
				others = append(others, next)
			}
		}
		of := func(l []clock.Press) []clock.Sale {
			return slices.DeleteFunc(mustRun(t, a, l).sales, func(sold clock.Sale) bool { return sold.Lot > n })
		}
		want := of(l)
		if got := of(others); !slices.Equal(got, want) {
			t.Fatalf("of %v, %v makes %v up to the lot %d, and %v makes %v", a, l, want, n, others, got)
		}
		first := a
		first.Lots = a.Lots[:n+1]
		sells(t, first, without(l, func(p clock.Press) bool { return p.Lot > n }), want...)
	})
}

// P9.13

func TestSettled(t *testing.T) {
	eachSales(t, 600, func(r *rand.Rand, a clock.Auction, sales []clock.Sale) {
		x := mustSettle(t, a, sales)
		if sum(x.Pays) != sum(x.Gets)+x.Fees {
			t.Fatalf("Settle of %v, %v: %v", a, sales, x)
		}
	})
	eachAuction(t, 900, allShapes(), func(r *rand.Rand, a clock.Auction, l []clock.Press, _ shape) {
		x := mustRun(t, a, l)
		accounts := mustSettle(t, a, x.sales)
		for buyer, pays := range accounts.Pays {
			if pays != a.Buyers[buyer].Credit-x.credit[buyer] {
				t.Fatalf("Settle of %v, %v: %v, and what is left is %v", a, x.sales, accounts, x.credit)
			}
		}
		if sum(accounts.Pays) != sum(accounts.Gets)+accounts.Fees {
			t.Fatalf("Settle of %v, %v: %v", a, x.sales, accounts)
		}
	})
}

// P9.14

func TestFiles(t *testing.T) {
	again := func(sales []clock.Sale) {
		b := mustWrite(t, sales)
		l, e := clock.Read(b)
		if e != api.OK || !slices.Equal(l, sales) {
			t.Fatalf("Read of %q: %v, %v, not %v", b, l, e, sales)
		}
		if other := mustWrite(t, l); !bytes.Equal(other, b) {
			t.Fatalf("Write of %v: %q, not %q", l, other, b)
		}
	}
	eachAuction(t, 900, allShapes(), func(r *rand.Rand, a clock.Auction, l []clock.Press, _ shape) {
		again(mustRun(t, a, l).sales)
	})
	eachSales(t, 300, func(r *rand.Rand, a clock.Auction, sales []clock.Sale) { again(sales) })
}

// TestReadAgain changes some bytes of files: what is still one is written again.
func TestReadAgain(t *testing.T) {
	read := 0
	eachSales(t, 3000, func(r *rand.Rand, a clock.Auction, sales []clock.Sale) {
		b := mustWrite(t, sales)
		for range min(len(b), upTo(r, 2)) {
			b[r.Intn(len(b))] = byte(' ' + r.Intn(32))
		}
		if l, e := clock.Read(b); e == api.OK {
			read++
			if other := mustWrite(t, l); !bytes.Equal(other, b) {
				t.Fatalf("Read of %q: %v, of which Write makes %q", b, l, other)
			}
		} else if e != api.ErrForm || l != nil {
			t.Fatalf("Read of %q: %v, %v", b, l, e)
		}
	})
	if read < 100 {
		t.Errorf("%d files were read", read)
	}
}

// R3

func TestNil(t *testing.T) {
	for _, a := range []clock.Auction{{Step: 1}, {Step: 1, Lots: []clock.Lot{}, Buyers: []clock.Buyer{}}, {Step: 1, Lots: hall().Lots, Buyers: []clock.Buyer{}}, {Step: 1, Lots: []clock.Lot{}, Buyers: hall().Buyers}} {
		if e := clock.CheckAuction(a); e != api.ErrArg {
			t.Errorf("CheckAuction of %v: %v", a, e)
		}
	}
	for _, l := range [][]clock.Press{nil, {}} {
		sells(t, hall(), l)
		proves(t, hall(), l, nil, true)
		proves(t, hall(), l, []clock.Sale{}, true)
		waits(t, hall(), l, p(0, 0, 0, 2), 5)
	}
	for _, sales := range [][]clock.Sale{nil, {}} {
		settles(t, hall(), sales, clock.Accounts{Pays: []int{0, 0, 0}, Gets: gets(nil)})
		files(t, sales, "")
	}
	for _, b := range [][]byte{nil, {}} {
		if sales, e := clock.Read(b); e != api.OK || len(sales) != 0 {
			t.Errorf("Read of nothing: %v, %v", sales, e)
		}
	}
}

// R4

// roomy is a copy with room behind it, which no call may write into.
func roomy[T any](l []T) []T { return append(make([]T, 0, len(l)+40), l...) }

// isUntouched tells whether a roomy list is as it was, and all behind it, too.
func isUntouched[T comparable](l, before []T) bool {
	var zero T
	behind := func(x T) bool { return x != zero }
	return slices.Equal(l, before) && !slices.ContainsFunc(l[len(l):cap(l)], behind)
}

func TestMemory(t *testing.T) {
	eachAuction(t, 300, allShapes(), func(r *rand.Rand, a clock.Auction, l []clock.Press, x shape) {
		before, pressesBefore := cloned(a), slices.Clone(l)
		a.Lots, a.Buyers, l = roomy(a.Lots), roomy(a.Buyers), roomy(l)
		next := randomPress(r, a, x)
		salesBefore := modelRun(before, pressesBefore).sales
		fileBefore := []byte(modelFile(salesBefore))
		sales, file := roomy(salesBefore), roomy(fileBefore)
		var results [2][][]int
		for n := range results {
			results[n] = allOf(t, a, l, next, sales, file)
			if !isUntouched(a.Lots, before.Lots) || !isUntouched(a.Buyers, before.Buyers) || !isUntouched(l, pressesBefore) ||
				!isUntouched(sales, salesBefore) || !isUntouched(file, fileBefore) {
				t.Fatalf("the calls for %v, %v changed them", before, pressesBefore)
			}
		}
		if !slices.EqualFunc(results[0], results[1], slices.Equal) {
			t.Fatalf("the calls for %v, %v return %v, and then %v", a, l, results[0], results[1])
		}
	})
}

// spoil writes into a result, and behind it.
func spoil[T any](l []T, with T) {
	l = l[:cap(l)]
	for n := range l {
		l[n] = with
	}
}

// allOf returns what all calls return, in lists of its own, and writes into what
// they returned.
func allOf(t *testing.T, a clock.Auction, l []clock.Press, next clock.Press, sales []clock.Sale, file []byte) [][]int {
	t.Helper()
	x := mustRun(t, a, l)
	tick, e := clock.Wait(a, l, next)
	accounts := mustSettle(t, a, sales)
	b := mustWrite(t, sales)
	read, f := clock.Read(file)
	if f != api.OK || !clock.ProveSales(a, l, sales) {
		t.Errorf("Read of %q: %v, or ProveSales of %v, %v, %v: no", file, f, a, l, sales)
	}
	all := [][]int{{tick, int(e), int(clock.CheckAuction(a)), accounts.Fees}}
	of := func(some ...[]int) {
		for _, l := range some {
			all = append(all, slices.Clone(l))
		}
	}
	ofSales := func(some []clock.Sale) {
		for _, y := range some {
			all = append(all, []int{y.Lot, y.Tick, y.Buyer, y.Units, y.Price})
		}
		spoil(some, s(-9, -9, -9, -9, -9))
	}
	// Each result is written into before the next one is looked at.
	ofSales(x.sales)
	of(x.left)
	spoil(x.left, -9)
	of(x.credit)
	spoil(x.credit, -9)
	of(accounts.Pays)
	spoil(accounts.Pays, -9)
	of(accounts.Gets)
	spoil(accounts.Gets, -9)
	for _, y := range b {
		of([]int{int(y)})
	}
	spoil(b, 'x')
	ofSales(read)
	return all
}

// P1

// TestAnything has arguments of all kinds: each call ends, and does not panic.
func TestAnything(t *testing.T) {
	r := rand.New(rand.NewSource(12))
	numbers := append(beyond(0, 4), 0, 1, 1, 2, 3, 4, 5, 9, 99, 100, 1000, 1001, 10000, math.MaxInt-1, math.MinInt+1, math.MaxInt/1000)
	number := func() int { return numbers[r.Intn(len(numbers))] }
	for range 5000 {
		wild := clock.Auction{Step: number(), Fee: number()}
		var l []clock.Press
		var sales []clock.Sale
		for range r.Intn(4) {
			wild.Lots = append(wild.Lots, clock.Lot{Units: number(), Start: number(), Floor: number(), Least: number(), Seller: number()})
			wild.Buyers = append(wild.Buyers, clock.Buyer{Credit: number(), Trust: number()})
			l = append(l, p(number(), number(), number(), number()))
			sales = append(sales, s(number(), number(), number(), number(), number()))
		}
		b := make([]byte, r.Intn(30))
		for n := range b {
			b[n] = "0123456789 \n-+x\x00\xff"[r.Intn(17)]
		}
		for _, a := range []clock.Auction{wild, hall(), pair(), full()} {
			clock.CheckAuction(a)
			for _, presses := range [][]clock.Press{l, usual()} {
				clock.Run(a, presses)
				clock.ProveSales(a, presses, sales)
				clock.Wait(a, presses, p(number(), number(), number(), number()))
			}
			clock.Settle(a, sales)
		}
		clock.Write(sales)
		clock.Read(b)
	}
}

// TestGreatAuctions has auctions of all sizes up to the limits, in which each call
// ends soon.
func TestGreatAuctions(t *testing.T) {
	a := full()
	a.Step = 1
	for n := range a.Lots {
		a.Lots[n] = clock.Lot{Units: api.MaxUnits, Start: api.MaxCoin, Floor: 1, Least: 1}
	}
	for n := range a.Buyers {
		a.Buyers[n].Trust = n
	}
	var l []clock.Press
	for n := range api.MaxPresses {
		l = append(l, p(n%api.MaxLots, api.MaxTick-n, n%api.MaxBuyers, 1+n))
	}
	for range 20 {
		x := mustRun(t, a, l)
		if len(x.sales) != api.MaxPresses {
			t.Fatalf("%d sales", len(x.sales))
		}
		settles(t, a, x.sales, modelSettle(a, x.sales))
		files(t, x.sales, modelFile(x.sales))
		waits(t, a, l, p(api.MaxLots-1, 0, 1, 100), api.MaxTick)
	}
}

package stock_test

import (
	"math/rand"
	"slices"
	"testing"

	"bybloem/api"
	"bybloem/stock"
)

func mustRun(t *testing.T, p stock.Plan, truth stock.Truth) []stock.Year {
	t.Helper()
	l, e := stock.Run(p, truth)
	if e != api.OK {
		t.Fatalf("Run of %v in %v: %v", truth, p, e)
	}
	return l
}

func mustCount(t *testing.T, p stock.Plan) []stock.Bounds {
	t.Helper()
	l, e := stock.Count(p)
	if e != api.OK || len(l) != p.Years {
		t.Fatalf("Count of %v: %v, %v", p, l, e)
	}
	return l
}

// eachPlan calls a test with small plans, and with great ones.
func eachPlan(t *testing.T, n int, test func(r *rand.Rand, p stock.Plan)) {
	t.Helper()
	eachSmall(t, n, test)
	eachGreat(t, n, test)
}

// P2.6

func TestAnyTruth(t *testing.T) {
	eachPlan(t, 200, func(r *rand.Rand, p stock.Plan) {
		bounds := mustCount(t, p)
		for range 20 {
			truth := anyTruth(r, p)
			for y, year := range mustRun(t, p, truth) {
				for i, l := range lists(year) {
					for size, n := range l {
						if b := ranges(bounds[y])[i][size]; n < b.Lo || n > b.Hi {
							t.Errorf("%d of the list %d of the year %d is not in %v: %v in %v", n, i, y, b, truth, p)
						}
					}
				}
			}
		}
	})
}

// lost is 2, the index of the one list whose ends are not reached with those of
// the others.
const lost = 2

func TestEndsAreReached(t *testing.T) {
	eachPlan(t, 200, func(_ *rand.Rand, p stock.Plan) {
		least, most := mustRun(t, p, lesser(p)), mustRun(t, p, greater(p))
		for y, b := range mustCount(t, p) {
			atLeast, atMost := lists(least[y]), lists(most[y])
			below, above := lesser(p), greater(p)
			below.Loss[y], above.Loss[y] = p.Loss.Lo, p.Loss.Hi
			atLeast[lost], atMost[lost] = mustRun(t, p, below)[y].Lost, mustRun(t, p, above)[y].Lost
			for i, l := range ranges(b) {
				for size, r := range l {
					if r != to(atLeast[i][size], atMost[i][size]) {
						t.Errorf("%v of the list %d of the year %d of %v is not from %d to %d", r, i, y, p, atLeast[i][size], atMost[i][size])
					}
				}
			}
		}
	})
}

// P2.7

func TestNothingIsLost(t *testing.T) {
	eachPlan(t, 300, func(r *rand.Rand, p stock.Plan) {
		truth := anyTruth(r, p)
		for y, year := range mustRun(t, p, truth) {
			for size, lifted := range year.Lifted {
				thrown := lifted - year.Sold[size] - year.Lost[size] - year.Planted[size]
				if thrown < 0 || thrown > 0 && year.Planted[size] < p.Room[size] || year.Planted[size] > p.Room[size] {
					t.Errorf("thrown %d in the year %d of %v in %v", thrown, y, truth, p)
				}
			}
		}
	})
}

// mix makes a truth of the numbers of two of them.
func mix(a, b stock.Truth, count, loss func(a, b int) int) stock.Truth {
	both := func(a, b []int, pick func(a, b int) int) []int {
		var l []int
		for i := range a {
			l = append(l, pick(a[i], b[i]))
		}
		return l
	}
	t := stock.Truth{Start: both(a.Start, b.Start, count), Loss: both(a.Loss, b.Loss, loss)}
	for y := range a.Grow {
		var rows [][]int
		for from := range a.Grow[y] {
			rows = append(rows, both(a.Grow[y][from], b.Grow[y][from], count))
		}
		t.Grow = append(t.Grow, rows)
	}
	return t
}

func lesserOf(a, b int) int { return min(a, b) }

func greaterOf(a, b int) int { return max(a, b) }

// P2.8

func TestMore(t *testing.T) {
	eachPlan(t, 200, func(r *rand.Rand, p stock.Plan) {
		a, b := anyTruth(r, p), anyTruth(r, p)
		less, more := mustRun(t, p, mix(a, b, lesserOf, greaterOf)), mustRun(t, p, mix(a, b, greaterOf, lesserOf))
		for y := range less {
			l, m := lists(less[y]), lists(more[y])
			for i := range l {
				for size := range l[i] {
					if i != lost && l[i][size] > m[i][size] {
						t.Errorf("with more there is less of the list %d in the year %d: %v and %v in %v", i, y, a, b, p)
					}
				}
			}
		}
	})
}

// P2.9

func TestReached(t *testing.T) {
	// Not up to any year is later than up to each one.
	late := func(year int) int {
		if year < 0 {
			return api.MaxSeasons
		}
		return year
	}
	eachPlan(t, 100, func(r *rand.Rand, p stock.Plan) {
		for size := range p.Start {
			number, before, surelyBefore := 0, 0, 0
			for range 8 {
				perhaps, surely, e := stock.Reach(p, size, number)
				if e != api.OK || late(perhaps) > late(surely) || late(perhaps) < before || late(surely) < surelyBefore {
					t.Errorf("Reach of %d of %d of %v: %d, %d, %v", number, size, p, perhaps, surely, e)
				}
				before, surelyBefore = late(perhaps), late(surely)
				for range 4 {
					checkReached(t, p, anyTruth(r, p), size, number, perhaps, surely)
				}
				number += r.Intn(2 + p.Sell[size])
			}
		}
	})
}

// checkReached holds the years of a truth against those that Reach tells.
func checkReached(t *testing.T, p stock.Plan, truth stock.Truth, size, number, perhaps, surely int) {
	t.Helper()
	sold := 0
	for y, year := range mustRun(t, p, truth) {
		sold += year.Sold[size]
		if sold >= number && (perhaps < 0 || y < perhaps) {
			t.Errorf("%d of %d are sold up to the year %d, before %d: %v in %v", sold, size, y, perhaps, truth, p)
		}
		if sold < number && surely >= 0 && y >= surely {
			t.Errorf("%d of %d are sold up to the year %d, behind %d: %v in %v", sold, size, y, surely, truth, p)
		}
	}
}

// P2.10

func TestPlanted(t *testing.T) {
	tried := 0
	eachPlan(t, 200, func(r *rand.Rand, p stock.Plan) {
		planted, size := r.Intn(len(p.Start)), r.Intn(len(p.Start))
		for _, number := range askedOf(r, p, size) {
			n, e := stock.Least(p, planted, size, number)
			last := copyPlan(p)
			last.Start[planted] = to(n, n)
			if e == api.ErrFail {
				n = p.Room[planted] + 1
			}
			for range 5 {
				if truth := anyTruth(r, last); e == api.OK && modelSold(mustRun(t, last, truth), size) < number {
					t.Errorf("planted %d of %d, %d of %d are not sold: %v in %v", n, planted, number, size, truth, p)
				}
			}
			if n == 0 {
				continue
			}
			tried++
			last.Start[planted] = to(n-1, n-1)
			if modelSold(mustRun(t, last, lesser(last)), size) >= number {
				t.Errorf("planted %d of %d, not %d, %d of %d are sold in %v", n-1, planted, n, number, size, p)
			}
		}
	})
	if tried < 100 {
		t.Errorf("%d plantings tried", tried)
	}
}

// P2.11

func TestBestPurchase(t *testing.T) {
	bought := 0
	eachSmall(t, 800, func(r *rand.Rand, p stock.Plan) {
		size, l := r.Intn(len(p.Start)), randomCrates(r, p)
		for _, number := range askedOf(r, p, size) {
			purchase, price, e := stock.Cheapest(p, l, size, number)
			if e != api.OK {
				continue
			}
			if price > 0 {
				bought++
			}
			if is, e := stock.Enough(p, l, purchase, size, number); !is || e != api.OK {
				t.Errorf("Enough of %v of %v for %d of %d of %v: %v, %v", purchase, l, number, size, p, is, e)
			}
			eachPurchase(l, func(other []int) {
				cost := 0
				for kind, n := range other {
					cost += n * l[kind].Price
				}
				if is, _ := stock.Enough(p, l, other, size, number); is && (cost < price || cost == price && slices.Compare(other, purchase) < 0) {
					t.Errorf("%v is better than %v of %v for %d of %d of %v", other, purchase, l, number, size, p)
				}
			})
			checkNoCheaper(t, r, p, l, size, number, price)
		}
	})
	if bought < 100 {
		t.Errorf("%d purchases", bought)
	}
}

// checkNoCheaper asks for more, offers less, and asks for a greater price.
func checkNoCheaper(t *testing.T, r *rand.Rand, p stock.Plan, l []stock.Crate, size, number, price int) {
	t.Helper()
	fewer, dearer := slices.Clone(l), slices.Clone(l)
	if len(l) > 0 {
		kind := r.Intn(len(l))
		fewer[kind].Most = max(0, l[kind].Most-1)
		dearer[kind].Price++
	}
	for _, x := range []struct {
		l      []stock.Crate
		number int
	}{{l, number + 1}, {fewer, number}, {dearer, number}} {
		if _, cost, e := stock.Cheapest(p, x.l, size, x.number); e == api.OK && cost < price {
			t.Errorf("Cheapest of %v for %d of %d of %v: %d, below %d", x.l, x.number, size, p, cost, price)
		}
	}
}

// P2.12

func TestYears(t *testing.T) {
	eachPlan(t, 200, func(r *rand.Rand, p stock.Plan) {
		all := mustCount(t, p)
		size := r.Intn(len(p.Start))
		for years := range p.Years {
			first := copyPlan(p)
			first.Years = years
			if l := mustCount(t, first); !slices.EqualFunc(l, all[:years], sameBounds) {
				t.Errorf("the bounds of the first %d years of %v: %v", years, p, l)
			}
			number := 1 + r.Intn(1+2*p.Sell[size])
			few, e := stock.Least(first, size, size, number)
			more, f := stock.Least(p, size, size, number)
			if e == api.OK && (f != api.OK || more > few) {
				t.Errorf("with more than %d years of %v less is sold: %d, %d, %v", years, p, few, more, f)
			}
		}
	})
}

// order lays a list in another order.
func order[T any](by []int, l []T) []T {
	var out []T
	for _, i := range by {
		out = append(out, l[i])
	}
	return out
}

// P2.13

func TestSizes(t *testing.T) {
	eachPlan(t, 200, func(r *rand.Rand, p stock.Plan) {
		by := r.Perm(len(p.Start))
		q := p
		q.Start, q.Room, q.Sell, q.Keep = order(by, p.Start), order(by, p.Room), order(by, p.Sell), order(by, p.Keep)
		q.Grow = order(by, p.Grow)
		for i := range q.Grow {
			q.Grow[i] = order(by, q.Grow[i])
		}
		was, is := mustCount(t, p), mustCount(t, q)
		for y := range was {
			a, b := ranges(was[y]), ranges(is[y])
			for i := range a {
				if !slices.Equal(order(by, a[i]), b[i]) {
					t.Errorf("the list %d of the year %d of %v, in the order %v: %v", i, y, p, by, b[i])
				}
			}
		}
	})
}

// R3

func TestEmptyLists(t *testing.T) {
	still := field()
	still.Years = 0
	for _, x := range []stock.Truth{{Start: []int{1000, 0}}, {Start: []int{1000, 0}, Grow: [][][]int{}, Loss: []int{}}} {
		if l, e := stock.Run(still, x); e != api.OK || len(l) > 0 {
			t.Errorf("Run of %v: %v, %v", x, l, e)
		}
	}
	if e := stock.CheckPlan(stock.Plan{Start: []stock.Range{}, Room: []int{}, Grow: [][]stock.Range{}, Sell: []int{}, Keep: []int{}}); e != api.ErrArg {
		t.Errorf("CheckPlan of empty lists: %v", e)
	}
	if l, n, e := stock.Cheapest(field(), []stock.Crate{}, 1, 307); len(l) > 0 || n != 0 || e != api.OK {
		t.Errorf("Cheapest of no crates: %v, %d, %v", l, n, e)
	}
	for _, none := range [][]int{nil, {}} {
		if is, e := stock.Enough(field(), []stock.Crate{}, none, 1, 307); !is || e != api.OK {
			t.Errorf("Enough of no crates: %v, %v", is, e)
		}
	}
}

// R4

func TestArgumentsStay(t *testing.T) {
	p, truth, l, bought := field(), lesser(field()), crates(), []int{1, 1}
	stock.CheckPlan(p)
	stock.Run(p, truth)
	stock.Count(p)
	stock.Reach(p, 1, 300)
	stock.Least(p, 0, 1, 200)
	stock.Enough(p, l, bought, 1, 400)
	stock.Cheapest(p, l, 1, 400)
	same := slices.Equal(p.Start, field().Start) && slices.Equal(p.Room, field().Room) && slices.Equal(p.Sell, field().Sell) && slices.Equal(p.Keep, field().Keep) && slices.EqualFunc(p.Grow, field().Grow, slices.Equal)
	if !same || !slices.Equal(l, crates()) || !slices.Equal(bought, []int{1, 1}) {
		t.Errorf("arguments are not as they were: %v, %v, %v", p, l, bought)
	}
	was := lesser(field())
	for y := range was.Grow {
		same = same && slices.EqualFunc(truth.Grow[y], was.Grow[y], slices.Equal)
	}
	if !same || !slices.Equal(truth.Start, was.Start) || !slices.Equal(truth.Loss, was.Loss) {
		t.Errorf("a truth is not as it was: %v", truth)
	}
}

// apart tells whether lists share no memory, up to their capacity: each gets a
// number of its own, and keeps it while the others get theirs.
func apart[T comparable](lists [][]T, own func(int) T) bool {
	for i, l := range lists {
		l = l[:cap(l)]
		for j := range l {
			l[j] = own(i)
		}
	}
	for i, l := range lists {
		l = l[:cap(l)]
		for j := range l {
			if l[j] != own(i) {
				return false
			}
		}
	}
	return true
}

func TestResultsAreApart(t *testing.T) {
	p, truth := field(), lesser(field())
	var numbers [][]int
	for _, y := range mustRun(t, p, truth) {
		l := lists(y)
		numbers = append(numbers, l[:]...)
	}
	for y := range truth.Grow {
		numbers = append(numbers, truth.Grow[y]...)
	}
	best, _, _ := stock.Cheapest(p, crates(), 1, 400)
	again, _, _ := stock.Cheapest(p, crates(), 1, 400)
	numbers = append(numbers, truth.Start, truth.Loss, best, again, p.Room, p.Sell, p.Keep)
	if !apart(numbers, func(i int) int { return -1 - i }) {
		t.Error("lists of numbers share memory")
	}
	p = field()
	var all [][]stock.Range
	for _, b := range mustCount(t, p) {
		l := ranges(b)
		all = append(all, l[:]...)
	}
	all = append(append(all, p.Start), p.Grow...)
	if !apart(all, func(i int) stock.Range { return to(i, i) }) {
		t.Error("lists of ranges share memory")
	}
}

package stock_test

import (
	"math/rand"
	"slices"
	"testing"

	"bybloem/api"
	"bybloem/stock"
)

// The model does a year as the chapter tells it, with lists alone and as little
// of the program as can be, and looks at each truth in which every range is at
// one of its ends. Random plans, always the same ones, are done by both.

func to(low, high int) stock.Range { return stock.Range{Lo: low, Hi: high} }

// modelRun counts the years of a truth, without a look at whether it is one.
func modelRun(p stock.Plan, t stock.Truth) []stock.Year {
	var years []stock.Year
	planted := t.Start
	for y := 0; y < p.Years; y++ {
		var year stock.Year
		for size := range planted {
			lifted := 0
			for from, bulbs := range planted {
				lifted += bulbs * t.Grow[y][from][size] / 1000
			}
			sold := 0
			if lifted > p.Keep[size] {
				sold = min(p.Sell[size], lifted-p.Keep[size])
			}
			lost := (lifted - sold) * t.Loss[y] / 1000
			year.Lifted = append(year.Lifted, lifted)
			year.Sold = append(year.Sold, sold)
			year.Lost = append(year.Lost, lost)
			year.Planted = append(year.Planted, min(lifted-sold-lost, p.Room[size]))
		}
		years = append(years, year)
		planted = year.Planted
	}
	return years
}

func modelSold(years []stock.Year, size int) int {
	sold := 0
	for _, y := range years {
		sold += y.Sold[size]
	}
	return sold
}

// fill makes a truth of a plan, with a number of each range that is asked for.
func fill(p stock.Plan, pick func(stock.Range) int) stock.Truth {
	var t stock.Truth
	for _, r := range p.Start {
		t.Start = append(t.Start, pick(r))
	}
	for y := 0; y < p.Years; y++ {
		var rows [][]int
		for _, ranges := range p.Grow {
			var row []int
			for _, r := range ranges {
				row = append(row, pick(r))
			}
			rows = append(rows, row)
		}
		t.Grow = append(t.Grow, rows)
		t.Loss = append(t.Loss, pick(p.Loss))
	}
	return t
}

// ends counts the ranges of a truth whose ends differ.
func ends(p stock.Plan) int {
	n := 0
	fill(p, func(r stock.Range) int {
		if r.Lo < r.Hi {
			n++
		}
		return r.Lo
	})
	return n
}

// corners calls back with each truth in which all ranges are at an end.
func corners(p stock.Plan, back func(stock.Truth)) {
	for bits := range 1 << ends(p) {
		back(fill(p, func(r stock.Range) int {
			if r.Lo == r.Hi {
				return r.Lo
			}
			high := bits&1 > 0
			bits >>= 1
			if high {
				return r.Hi
			}
			return r.Lo
		}))
	}
}

// anyTruth has any number of each range; the ends come often.
func anyTruth(r *rand.Rand, p stock.Plan) stock.Truth {
	return fill(p, func(x stock.Range) int {
		switch r.Intn(4) {
		case 0:
			return x.Lo
		case 1:
			return x.Hi
		}
		return x.Lo + r.Intn(x.Hi-x.Lo+1)
	})
}

// lesser and greater are the truths that P2.6 names.
func lesser(p stock.Plan) stock.Truth { return extreme(p, low, high) }

func greater(p stock.Plan) stock.Truth { return extreme(p, high, low) }

func low(r stock.Range) int { return r.Lo }

func high(r stock.Range) int { return r.Hi }

func extreme(p stock.Plan, count, loss func(stock.Range) int) stock.Truth {
	t := fill(p, count)
	for y := range t.Loss {
		t.Loss[y] = loss(p.Loss)
	}
	return t
}

// lists are the four lists of a year, and of its bounds.
func lists(y stock.Year) [4][]int { return [4][]int{y.Lifted, y.Sold, y.Lost, y.Planted} }

func ranges(b stock.Bounds) [4][]stock.Range {
	return [4][]stock.Range{b.Lifted, b.Sold, b.Lost, b.Planted}
}

func sameYear(a, b stock.Year) bool {
	x, y := lists(a), lists(b)
	return slices.EqualFunc(x[:], y[:], slices.Equal)
}

func sameBounds(a, b stock.Bounds) bool {
	x, y := ranges(a), ranges(b)
	return slices.EqualFunc(x[:], y[:], slices.Equal)
}

// copyPlan copies all lists of a plan.
func copyPlan(p stock.Plan) stock.Plan {
	p.Start, p.Room, p.Sell, p.Keep = slices.Clone(p.Start), slices.Clone(p.Room), slices.Clone(p.Sell), slices.Clone(p.Keep)
	p.Grow = slices.Clone(p.Grow)
	for i := range p.Grow {
		p.Grow[i] = slices.Clone(p.Grow[i])
	}
	return p
}

// shape is how great a random plan may be.
type shape struct{ sizes, years, room, grow int }

func randomRange(r *rand.Rand, most int) stock.Range {
	a, b := r.Intn(most+1), r.Intn(most+1)
	if r.Intn(2) == 0 {
		return to(a, a)
	}
	return to(min(a, b), max(a, b))
}

func randomPlan(r *rand.Rand, s shape) stock.Plan {
	n := 1 + r.Intn(s.sizes)
	p := stock.Plan{Loss: randomRange(r, 400), Years: r.Intn(s.years + 1)}
	if r.Intn(5) == 0 {
		p.Loss = randomRange(r, 1000)
	}
	for range n {
		room := r.Intn(s.room + 1)
		p.Room = append(p.Room, room)
		p.Start = append(p.Start, randomRange(r, room))
		p.Sell = append(p.Sell, r.Intn(s.room/3+1))
		p.Keep = append(p.Keep, r.Intn(s.room/3+1))
		var row []stock.Range
		for range n {
			row = append(row, randomRange(r, s.grow))
		}
		p.Grow = append(p.Grow, row)
	}
	return p
}

// smallPlan is so small that each of its corners can be looked at often.
func smallPlan(r *rand.Rand) stock.Plan {
	for {
		p := randomPlan(r, shape{sizes: 2, years: 3, room: 30, grow: 2500})
		if ends(p) <= 7 {
			return p
		}
	}
}

// greatPlan has up to all sizes and years.
func greatPlan(r *rand.Rand) stock.Plan {
	return randomPlan(r, shape{sizes: api.MaxSizes, years: api.MaxSeasons, room: 5000, grow: 1200})
}

// eachSmall and eachGreat call a test with random plans.
func eachSmall(t *testing.T, n int, test func(r *rand.Rand, p stock.Plan)) {
	t.Helper()
	each(t, n, smallPlan, test)
}

func eachGreat(t *testing.T, n int, test func(r *rand.Rand, p stock.Plan)) {
	t.Helper()
	each(t, n, greatPlan, test)
}

func each(t *testing.T, n int, plan func(*rand.Rand) stock.Plan, test func(r *rand.Rand, p stock.Plan)) {
	t.Helper()
	r := rand.New(rand.NewSource(2))
	for range n {
		test(r, plan(r))
		if t.Failed() {
			return
		}
	}
}

// randomCrates are few enough that each purchase can be looked at. Prices are
// often the same.
func randomCrates(r *rand.Rand, p stock.Plan) []stock.Crate {
	var l []stock.Crate
	for range r.Intn(4) {
		l = append(l, stock.Crate{Size: r.Intn(len(p.Start)), Bulbs: 1 + r.Intn(8), Price: r.Intn(4), Most: r.Intn(4)})
	}
	return l
}

// eachPurchase calls back with each purchase, the least list first.
func eachPurchase(l []stock.Crate, back func([]int)) {
	purchase := make([]int, len(l))
	var choose func(kind int)
	choose = func(kind int) {
		if kind == len(l) {
			back(slices.Clone(purchase))
			return
		}
		for n := 0; n <= l[kind].Most; n++ {
			purchase[kind] = n
			choose(kind + 1)
		}
	}
	choose(0)
}

// modelEnough looks at each corner of the plan in which the purchase is planted.
func modelEnough(p stock.Plan, l []stock.Crate, purchase []int, size, number int) bool {
	p = copyPlan(p)
	for kind, n := range purchase {
		s := &p.Start[l[kind].Size]
		s.Lo, s.Hi = s.Lo+n*l[kind].Bulbs, s.Hi+n*l[kind].Bulbs
	}
	for size, s := range p.Start {
		if s.Hi > p.Room[size] {
			return false
		}
	}
	return modelSells(p, size, number)
}

// modelSells tells whether at least the number is sold in each corner.
func modelSells(p stock.Plan, size, number int) bool {
	all := true
	corners(p, func(t stock.Truth) {
		all = all && modelSold(modelRun(p, t), size) >= number
	})
	return all
}

// askedOf are numbers that are sold of a size in some truths of a plan, and
// those beside them.
func askedOf(r *rand.Rand, p stock.Plan, size int) []int {
	l := []int{0, 1}
	for range 3 {
		sold := modelSold(modelRun(p, anyTruth(r, p)), size)
		l = append(l, sold, sold+1)
	}
	return l
}

// TestRandomPlans asks whether the random plans have what the other tests are
// about at all.
func TestRandomPlans(t *testing.T) {
	for name, each := range map[string]func(*testing.T, int, func(*rand.Rand, stock.Plan)){"small": eachSmall, "great": eachGreat} {
		var thrown, partly, all, none, lost int
		each(t, 300, func(r *rand.Rand, p stock.Plan) {
			for _, y := range modelRun(p, anyTruth(r, p)) {
				for size, lifted := range y.Lifted {
					if lifted-y.Sold[size]-y.Lost[size] > y.Planted[size] {
						thrown++
					}
					if y.Lost[size] > 0 {
						lost++
					}
					switch sold := y.Sold[size]; {
					case sold == 0:
						none++
					case sold < p.Sell[size]:
						partly++
					default:
						all++
					}
				}
			}
		})
		if min(thrown, partly, all, none, lost) < 50 {
			t.Errorf("%s plans: thrown %d, sold partly %d, all %d, none %d, lost %d", name, thrown, partly, all, none, lost)
		}
	}
}

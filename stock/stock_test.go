package stock_test

import (
	"math"
	"math/rand"
	"slices"
	"testing"

	"bybloem/api"
	"bybloem/stock"
)

// field is the plan of the chapter's examples.
func field() stock.Plan {
	return stock.Plan{
		Start: []stock.Range{to(1000, 1200), to(0, 0)},
		Room:  []int{5000, 3000},
		Grow:  [][]stock.Range{{to(500, 700), to(300, 400)}, {to(1500, 2000), to(800, 900)}},
		Sell:  []int{0, 200},
		Keep:  []int{0, 100},
		Loss:  to(50, 100),
		Years: 2,
	}
}

// crates are those of the chapter's examples.
func crates() []stock.Crate {
	return []stock.Crate{{Size: 0, Bulbs: 500, Price: 40, Most: 3}, {Size: 1, Bulbs: 100, Price: 30, Most: 2}}
}

// plain is a plan of one size with the same numbers in each truth.
func plain(start, room, grow, sell, keep, loss, years int) stock.Plan {
	return stock.Plan{
		Start: []stock.Range{to(start, start)}, Room: []int{room}, Grow: [][]stock.Range{{to(grow, grow)}},
		Sell: []int{sell}, Keep: []int{keep}, Loss: to(loss, loss), Years: years,
	}
}

// widest has all sizes and years, and each range as wide as can be.
func widest() stock.Plan {
	p := stock.Plan{Loss: to(0, 1000), Years: api.MaxSeasons}
	for range api.MaxSizes {
		p.Start = append(p.Start, to(0, api.MaxPlanted))
		p.Room = append(p.Room, api.MaxPlanted)
		p.Sell = append(p.Sell, api.MaxPlanted)
		p.Keep = append(p.Keep, api.MaxPlanted)
		p.Grow = append(p.Grow, slices.Repeat([]stock.Range{to(0, api.MaxGrow)}, api.MaxSizes))
	}
	return p
}

// change is what makes a plan another one.
type change func(p *stock.Plan)

func (c change) of(p stock.Plan) stock.Plan {
	p = copyPlan(p)
	c(&p)
	return p
}

// badRanges are no ranges from 0 to most.
func badRanges(most int) []stock.Range {
	return []stock.Range{to(-1, 0), to(-1, -1), to(1, 0), to(most, most-1), to(0, most+1), to(most+1, most+1), to(math.MinInt, 0), to(0, math.MaxInt), to(0, math.MinInt), to(math.MaxInt, math.MinInt)}
}

// badNumbers are not from 0 to most.
func badNumbers(most int) []int { return []int{-1, most + 1, math.MinInt, math.MaxInt} }

// invalidChanges make the field no plan.
func invalidChanges() []change {
	l := []change{
		func(p *stock.Plan) { *p = stock.Plan{} },
		func(p *stock.Plan) { p.Start = nil },
		func(p *stock.Plan) { p.Start, p.Room, p.Grow, p.Sell, p.Keep = nil, nil, nil, nil, nil },
		func(p *stock.Plan) { p.Start = p.Start[:1] },
		func(p *stock.Plan) { p.Start = append(p.Start, to(0, 0)) },
		func(p *stock.Plan) { p.Room = nil },
		func(p *stock.Plan) { p.Room = p.Room[:1] },
		func(p *stock.Plan) { p.Room = append(p.Room, 0) },
		// The limit is that of Start alone.
		func(p *stock.Plan) { p.Room = make([]int, api.MaxSizes+1) },
		func(p *stock.Plan) { p.Room[0] = 1199 },
		func(p *stock.Plan) { p.Start[1], p.Room[1] = to(0, 1), 0 },
		func(p *stock.Plan) { p.Grow = nil },
		func(p *stock.Plan) { p.Grow = p.Grow[:1] },
		func(p *stock.Plan) { p.Grow = append(p.Grow, []stock.Range{to(0, 0), to(0, 0)}) },
		func(p *stock.Plan) { p.Grow[1] = nil },
		func(p *stock.Plan) { p.Grow[1] = p.Grow[1][:1] },
		func(p *stock.Plan) { p.Grow[0] = append(p.Grow[0], to(0, 0)) },
		func(p *stock.Plan) { p.Sell = p.Sell[:1] },
		func(p *stock.Plan) { p.Sell = append(p.Sell, 0) },
		func(p *stock.Plan) { p.Keep = p.Keep[:1] },
		func(p *stock.Plan) { p.Keep = append(p.Keep, 0) },
	}
	for _, x := range badRanges(api.MaxPlanted) {
		l = append(l, func(p *stock.Plan) { p.Start[1] = x }, func(p *stock.Plan) { p.Start[0], p.Room[0] = x, api.MaxPlanted })
	}
	for _, x := range badRanges(api.MaxGrow) {
		l = append(l, func(p *stock.Plan) { p.Grow[0][0] = x }, func(p *stock.Plan) { p.Grow[1][1] = x })
	}
	for _, x := range badRanges(1000) {
		l = append(l, func(p *stock.Plan) { p.Loss = x })
	}
	for _, x := range badNumbers(api.MaxPlanted) {
		l = append(l, func(p *stock.Plan) { p.Room[0] = x }, func(p *stock.Plan) { p.Room[1] = x }, func(p *stock.Plan) { p.Sell[0] = x }, func(p *stock.Plan) { p.Sell[1] = x }, func(p *stock.Plan) { p.Keep[0] = x }, func(p *stock.Plan) { p.Keep[1] = x })
	}
	for _, x := range badNumbers(api.MaxSeasons) {
		l = append(l, func(p *stock.Plan) { p.Years = x })
	}
	return l
}

// badPlan is a plan that no call takes, and why.
type badPlan struct {
	p    stock.Plan
	want api.Errno
}

func badPlans() []badPlan {
	var l []badPlan
	for _, c := range invalidChanges() {
		l = append(l, badPlan{c.of(field()), api.ErrArg})
	}
	return append(l,
		// The error that the table asks for first.
		badPlan{stock.Plan{Start: make([]stock.Range, api.MaxSizes+1), Loss: to(1, 0), Years: -1}, api.ErrLimit},
		badPlan{stock.Plan{Start: slices.Repeat([]stock.Range{to(1, 0)}, api.MaxSizes+1)}, api.ErrLimit},
	)
}

// P2.1

func TestCheckPlan(t *testing.T) {
	empty := field()
	empty.Years = 0
	full := field()
	full.Start[0], full.Room[0] = to(5000, 5000), 5000
	for _, p := range []stock.Plan{field(), empty, full, widest(), plain(0, 0, 0, 0, 0, 0, 0), plain(api.MaxPlanted, api.MaxPlanted, api.MaxGrow, api.MaxPlanted, api.MaxPlanted, 1000, api.MaxSeasons)} {
		if e := stock.CheckPlan(p); e != api.OK {
			t.Errorf("CheckPlan of %v: %v", p, e)
		}
	}
	for _, x := range badPlans() {
		if e := stock.CheckPlan(x.p); e != x.want {
			t.Errorf("CheckPlan of %v: %v", x.p, e)
		}
	}
}

// TestBadPlans holds that each call refuses a plan that is none, whatever else
// is wrong, and returns nothing beside the error.
func TestBadPlans(t *testing.T) {
	bought := make([]stock.Crate, api.MaxCrates+1)
	for _, x := range badPlans() {
		if l, e := stock.Run(x.p, stock.Truth{}); e != x.want || l != nil {
			t.Errorf("Run of %v: %v, %v", x.p, l, e)
		}
		if l, e := stock.Count(x.p); e != x.want || l != nil {
			t.Errorf("Count of %v: %v, %v", x.p, l, e)
		}
		for _, size := range []int{0, 9} {
			if a, b, e := stock.Reach(x.p, size, 1); e != x.want || a != 0 || b != 0 {
				t.Errorf("Reach of %v: %d, %d, %v", x.p, a, b, e)
			}
			if n, e := stock.Least(x.p, 0, size, 1); e != x.want || n != 0 {
				t.Errorf("Least of %v: %d, %v", x.p, n, e)
			}
			if is, e := stock.Enough(x.p, bought, nil, size, 1); e != x.want || is {
				t.Errorf("Enough of %v: %v, %v", x.p, is, e)
			}
			if l, n, e := stock.Cheapest(x.p, bought, size, 1); e != x.want || l != nil || n != 0 {
				t.Errorf("Cheapest of %v: %v, %d, %v", x.p, l, n, e)
			}
		}
	}
}

func TestRun(t *testing.T) {
	pair := func(a, b int) []int { return []int{a, b} }
	split := stock.Plan{
		Start: []stock.Range{to(1, 1), to(1, 1)}, Room: pair(9, 9),
		Grow: [][]stock.Range{{to(500, 999), to(1500, 1999)}, {to(500, 999), to(1500, 1999)}},
		Sell: pair(0, 0), Keep: pair(0, 0), Loss: to(0, 1000), Years: 1,
	}
	one := func(start int, grow, loss []int) stock.Truth {
		truth := stock.Truth{Start: []int{start}, Loss: loss}
		for _, g := range grow {
			truth.Grow = append(truth.Grow, [][]int{{g}})
		}
		return truth
	}
	year := func(lifted, sold, lost, planted int) stock.Year {
		return stock.Year{Lifted: []int{lifted}, Sold: []int{sold}, Lost: []int{lost}, Planted: []int{planted}}
	}
	for _, x := range []struct {
		p    stock.Plan
		t    stock.Truth
		want []stock.Year
	}{
		{plain(15, 15, 1000, 5, 8, 100, 1), one(15, []int{1000}, []int{100}), []stock.Year{year(15, 5, 1, 9)}},
		// What is not above Keep is not sold; one above it is.
		{plain(8, 15, 1000, 5, 8, 0, 1), one(8, []int{1000}, []int{0}), []stock.Year{year(8, 0, 0, 8)}},
		{plain(7, 15, 1000, 5, 8, 0, 1), one(7, []int{1000}, []int{0}), []stock.Year{year(7, 0, 0, 7)}},
		{plain(9, 15, 1000, 5, 8, 0, 1), one(9, []int{1000}, []int{0}), []stock.Year{year(9, 1, 0, 8)}},
		{plain(13, 15, 1000, 5, 8, 0, 1), one(13, []int{1000}, []int{0}), []stock.Year{year(13, 5, 0, 8)}},
		// What grows and what is lost is rounded down.
		{plain(3, 9, 1999, 0, 0, 199, 1), one(3, []int{1999}, []int{199}), []stock.Year{year(5, 0, 0, 5)}},
		{plain(3, 9, 1999, 0, 0, 200, 1), one(3, []int{1999}, []int{200}), []stock.Year{year(5, 0, 1, 4)}},
		// All is lost, and none of it later.
		{plain(4, 9, 1000, 1, 0, 1000, 2), one(4, []int{1000, 1000}, []int{1000, 1000}), []stock.Year{year(4, 1, 3, 0), year(0, 0, 0, 0)}},
		// What finds no room is thrown away.
		{plain(4, 4, 5000, 1, 0, 0, 2), one(4, []int{5000, 5000}, []int{0, 0}), []stock.Year{year(20, 1, 0, 4), year(20, 1, 0, 4)}},
		{plain(0, 0, 5000, 1, 0, 0, 1), one(0, []int{5000}, []int{0}), []stock.Year{year(0, 0, 0, 0)}},
		{plain(4, 4, 5000, 1, 0, 0, 0), one(4, nil, nil), nil},
		// What comes from each size is rounded down by itself.
		{split, stock.Truth{Start: pair(1, 1), Grow: [][][]int{{pair(999, 1999), pair(999, 1999)}}, Loss: []int{500}}, []stock.Year{
			{Lifted: pair(0, 2), Sold: pair(0, 0), Lost: pair(0, 1), Planted: pair(0, 1)},
		}},
		// Grow has a row for the planted size, and each year its own numbers.
		{field(), stock.Truth{Start: pair(1100, 0), Grow: [][][]int{{pair(600, 300), pair(1500, 800)}, {pair(500, 400), pair(2000, 900)}}, Loss: []int{100, 50}}, []stock.Year{
			{Lifted: pair(660, 330), Sold: pair(0, 200), Lost: pair(66, 13), Planted: pair(594, 117)},
			{Lifted: pair(531, 342), Sold: pair(0, 200), Lost: pair(26, 7), Planted: pair(505, 135)},
		}},
	} {
		if l, e := stock.Run(x.p, x.t); e != api.OK || !slices.EqualFunc(l, x.want, sameYear) {
			t.Errorf("Run of %v in %v: %v, %v", x.t, x.p, l, e)
		}
	}
}

func TestRunAsModel(t *testing.T) {
	run := func(r *rand.Rand, p stock.Plan) {
		truth := anyTruth(r, p)
		if l, e := stock.Run(p, truth); e != api.OK || !slices.EqualFunc(l, modelRun(p, truth), sameYear) {
			t.Errorf("Run of %v in %v: %v, %v", truth, p, l, e)
		}
	}
	eachSmall(t, 300, run)
	eachGreat(t, 300, run)
}

func TestRunErrors(t *testing.T) {
	type truth = stock.Truth
	for i, change := range []func(x *truth){
		func(x *truth) { *x = truth{} },
		func(x *truth) { x.Start = nil },
		func(x *truth) { x.Start = x.Start[:1] },
		func(x *truth) { x.Start = append(x.Start, 0) },
		func(x *truth) { x.Start[0] = 999 },
		func(x *truth) { x.Start[0] = 1201 },
		func(x *truth) { x.Start[1] = 1 },
		func(x *truth) { x.Start[1] = math.MinInt },
		func(x *truth) { x.Grow = nil },
		func(x *truth) { x.Grow = x.Grow[:1] },
		func(x *truth) { x.Grow = append(x.Grow, x.Grow[0]) },
		func(x *truth) { x.Grow[0] = nil },
		func(x *truth) { x.Grow[1] = x.Grow[1][:1] },
		func(x *truth) { x.Grow[1] = append(x.Grow[1], x.Grow[1][0]) },
		func(x *truth) { x.Grow[0][1] = nil },
		func(x *truth) { x.Grow[1][0] = x.Grow[1][0][:1] },
		func(x *truth) { x.Grow[1][0] = append(x.Grow[1][0], 300) },
		func(x *truth) { x.Grow[0][0][0] = 499 },
		func(x *truth) { x.Grow[1][1][1] = 901 },
		func(x *truth) { x.Grow[1][1][0] = math.MaxInt },
		func(x *truth) { x.Loss = nil },
		func(x *truth) { x.Loss = x.Loss[:1] },
		func(x *truth) { x.Loss = append(x.Loss, 60) },
		func(x *truth) { x.Loss[0] = 49 },
		func(x *truth) { x.Loss[1] = 101 },
	} {
		x := lesser(field())
		change(&x)
		if l, e := stock.Run(field(), x); e != api.ErrRange || l != nil {
			t.Errorf("Run of the truth %d, %v: %v, %v", i, x, l, e)
		}
	}
	still := field()
	still.Years = 0
	if _, e := stock.Run(still, lesser(field())); e != api.ErrRange {
		t.Errorf("Run of years that the plan has not: %v", e)
	}
}

// P2.2

func TestCount(t *testing.T) {
	want := []stock.Bounds{
		{Lifted: []stock.Range{to(500, 840), to(300, 480)}, Sold: []stock.Range{to(0, 0), to(200, 200)}, Lost: []stock.Range{to(25, 84), to(5, 28)}, Planted: []stock.Range{to(450, 798), to(90, 266)}},
		{Lifted: []stock.Range{to(360, 1090), to(207, 558)}, Sold: []stock.Range{to(0, 0), to(107, 200)}, Lost: []stock.Range{to(18, 109), to(5, 35)}, Planted: []stock.Range{to(324, 1036), to(90, 341)}},
	}
	if l, e := stock.Count(field()); e != api.OK || !slices.EqualFunc(l, want, sameBounds) {
		t.Errorf("Count: %v, %v", l, e)
	}
	if l, e := stock.Count(plain(1, 1, 1, 1, 1, 1, 0)); e != api.OK || len(l) > 0 {
		t.Errorf("Count of no years: %v, %v", l, e)
	}
	// Room for bulbs holds back what is planted, not what is lost.
	full := plain(10, 10, 2000, 0, 0, 0, 2)
	full.Loss = to(100, 300)
	all := to(20, 20)
	want = slices.Repeat([]stock.Bounds{{Lifted: []stock.Range{all}, Sold: []stock.Range{to(0, 0)}, Lost: []stock.Range{to(2, 6)}, Planted: []stock.Range{to(10, 10)}}}, 2)
	if l, e := stock.Count(full); e != api.OK || !slices.EqualFunc(l, want, sameBounds) {
		t.Errorf("Count of a full field: %v, %v", l, e)
	}
}

func TestCountOfTheWidest(t *testing.T) {
	most := api.MaxSizes * api.MaxPlanted * api.MaxGrow / 1000
	l, e := stock.Count(widest())
	if e != api.OK || len(l) != api.MaxSeasons {
		t.Fatalf("Count: %v, %v", l, e)
	}
	five := func(r stock.Range) []stock.Range { return slices.Repeat([]stock.Range{r}, api.MaxSizes) }
	want := stock.Bounds{Lifted: five(to(0, most)), Sold: five(to(0, api.MaxPlanted)), Lost: five(to(0, most-api.MaxPlanted)), Planted: five(to(0, api.MaxPlanted))}
	for y, b := range l {
		if !sameBounds(b, want) {
			t.Errorf("year %d: %v", y, b)
		}
	}
}

// modelCount has the least and the greatest numbers of all corners.
func modelCount(p stock.Plan) []stock.Bounds {
	var all []stock.Bounds
	corners(p, func(t stock.Truth) {
		for y, year := range modelRun(p, t) {
			if len(all) == y {
				none := func() []stock.Range { return slices.Repeat([]stock.Range{to(math.MaxInt, math.MinInt)}, len(p.Start)) }
				all = append(all, stock.Bounds{Lifted: none(), Sold: none(), Lost: none(), Planted: none()})
			}
			into := ranges(all[y])
			for i, l := range lists(year) {
				for size, n := range l {
					r := &into[i][size]
					*r = to(min(r.Lo, n), max(r.Hi, n))
				}
			}
		}
	})
	return all
}

func TestCountAsModel(t *testing.T) {
	eachSmall(t, 400, func(_ *rand.Rand, p stock.Plan) {
		if l, e := stock.Count(p); e != api.OK || !slices.EqualFunc(l, modelCount(p), sameBounds) {
			t.Errorf("Count of %v: %v, %v, not %v", p, l, e, modelCount(p))
		}
	})
}

// P2.3

func TestReach(t *testing.T) {
	still := field()
	still.Years = 0
	for _, x := range []struct {
		p               stock.Plan
		size, number    int
		perhaps, surely int
		want            api.Errno
	}{
		{field(), 1, 300, 1, 1, api.OK},
		{field(), 1, 400, 1, -1, api.OK},
		{field(), 1, 401, -1, -1, api.OK},
		{field(), 1, 0, 0, 0, api.OK},
		{field(), 1, 200, 0, 0, api.OK},
		{field(), 1, 201, 1, 1, api.OK},
		{field(), 1, 307, 1, 1, api.OK},
		{field(), 1, 308, 1, -1, api.OK},
		{field(), 0, 0, 0, 0, api.OK},
		{field(), 0, 1, -1, -1, api.OK},
		{field(), 1, api.MaxAsked, -1, -1, api.OK},
		// Without a year there is none up to which enough are sold.
		{still, 1, 0, -1, -1, api.OK},
		{field(), -1, 1, 0, 0, api.ErrRange},
		{field(), 2, 1, 0, 0, api.ErrRange},
		{field(), math.MaxInt, 1, 0, 0, api.ErrRange},
		{field(), 0, -1, 0, 0, api.ErrRange},
		{field(), 0, api.MaxAsked + 1, 0, 0, api.ErrRange},
	} {
		if a, b, e := stock.Reach(x.p, x.size, x.number); a != x.perhaps || b != x.surely || e != x.want {
			t.Errorf("Reach of %d of %d: %d, %d, %v", x.number, x.size, a, b, e)
		}
	}
}

// modelReach looks for the first year for which it is so in one corner, and in
// all of them.
func modelReach(p stock.Plan, size, number int) (perhaps, surely int) {
	perhaps, surely = -1, -1
	for y := range p.Years {
		some, all := false, true
		corners(p, func(t stock.Truth) {
			is := modelSold(modelRun(p, t)[:y+1], size) >= number
			some, all = some || is, all && is
		})
		if some && perhaps < 0 {
			perhaps = y
		}
		if all && surely < 0 {
			surely = y
		}
	}
	return perhaps, surely
}

func TestReachAsModel(t *testing.T) {
	eachSmall(t, 150, func(r *rand.Rand, p stock.Plan) {
		for size := range p.Start {
			for _, number := range askedOf(r, p, size) {
				perhaps, surely := modelReach(p, size, number)
				if a, b, e := stock.Reach(p, size, number); a != perhaps || b != surely || e != api.OK {
					t.Errorf("Reach of %d of %d of %v: %d, %d, %v, not %d, %d", number, size, p, a, b, e, perhaps, surely)
				}
			}
		}
	})
}

// P2.4

func TestLeast(t *testing.T) {
	still := field()
	still.Years = 0
	for _, x := range []struct {
		p                     stock.Plan
		planted, size, number int
		want                  int
		e                     api.Errno
	}{
		{field(), 0, 1, 200, 754, api.OK},
		{field(), 0, 1, 0, 0, api.OK},
		{field(), 0, 0, 0, 0, api.OK},
		{field(), 0, 0, 1, 0, api.ErrFail},
		{field(), 0, 1, 401, 0, api.ErrFail},
		// Start has the other size as it was.
		{field(), 1, 1, 307, 0, api.OK},
		// The number planted takes the place of Start, and may be below it or above.
		{plain(5, 9, 1000, 9, 0, 0, 1), 0, 0, 3, 3, api.OK},
		{plain(5, 9, 1000, 9, 0, 0, 1), 0, 0, 9, 9, api.OK},
		{plain(5, 9, 1000, 10, 0, 0, 1), 0, 0, 10, 0, api.ErrFail},
		{plain(0, 0, 1000, 10, 0, 0, 1), 0, 0, 1, 0, api.ErrFail},
		{plain(0, api.MaxPlanted, 1000, api.MaxPlanted, 0, 0, 1), 0, 0, api.MaxPlanted, api.MaxPlanted, api.OK},
		{still, 0, 1, 0, 0, api.OK},
		{still, 0, 1, 1, 0, api.ErrFail},
		{field(), -1, 1, 1, 0, api.ErrRange},
		{field(), 2, 1, 1, 0, api.ErrRange},
		{field(), 0, -1, 1, 0, api.ErrRange},
		{field(), 0, 2, 1, 0, api.ErrRange},
		{field(), 0, 1, -1, 0, api.ErrRange},
		{field(), 0, 1, api.MaxAsked, 0, api.ErrFail},
		{field(), 0, 1, api.MaxAsked + 1, 0, api.ErrRange},
	} {
		if n, e := stock.Least(x.p, x.planted, x.size, x.number); n != x.want || e != x.e {
			t.Errorf("Least of %d for %d of %d of %v: %d, %v", x.planted, x.number, x.size, x.p, n, e)
		}
	}
}

// modelLeast tries each planting, from none on.
func modelLeast(p stock.Plan, planted, size, number int) (int, api.Errno) {
	p = copyPlan(p)
	for n := 0; n <= p.Room[planted]; n++ {
		p.Start[planted] = to(n, n)
		if modelSells(p, size, number) {
			return n, api.OK
		}
	}
	return 0, api.ErrFail
}

func TestLeastAsModel(t *testing.T) {
	eachSmall(t, 100, func(r *rand.Rand, p stock.Plan) {
		planted, size := r.Intn(len(p.Start)), r.Intn(len(p.Start))
		for _, number := range askedOf(r, p, size) {
			want, f := modelLeast(p, planted, size, number)
			if n, e := stock.Least(p, planted, size, number); n != want || e != f {
				t.Errorf("Least of %d for %d of %d of %v: %d, %v, not %d, %v", planted, number, size, p, n, e, want, f)
			}
		}
	})
}

// P2.5

func TestEnough(t *testing.T) {
	for _, x := range []struct {
		bought       []int
		size, number int
		want         bool
		e            api.Errno
	}{
		{[]int{1, 0}, 1, 400, true, api.OK},
		{[]int{0, 0}, 1, 400, false, api.OK},
		{[]int{0, 1}, 1, 400, true, api.OK},
		{[]int{0, 0}, 1, 307, true, api.OK},
		{[]int{0, 0}, 1, 308, false, api.OK},
		{[]int{3, 2}, 1, 401, false, api.OK},
		{[]int{3, 2}, 0, 0, true, api.OK},
		{nil, 1, 1, false, api.ErrRange},
		{[]int{1}, 1, 1, false, api.ErrRange},
		{[]int{1, 1, 0}, 1, 1, false, api.ErrRange},
		{[]int{-1, 1}, 1, 1, false, api.ErrRange},
		{[]int{1, -1}, 1, 1, false, api.ErrRange},
		{[]int{4, 0}, 1, 1, false, api.ErrRange},
		{[]int{0, 3}, 1, 1, false, api.ErrRange},
		{[]int{math.MaxInt, 0}, 1, 1, false, api.ErrRange},
		{[]int{math.MinInt, 0}, 1, 1, false, api.ErrRange},
	} {
		if is, e := stock.Enough(field(), crates(), x.bought, x.size, x.number); is != x.want || e != x.e {
			t.Errorf("Enough of %v for %d of %d: %v, %v", x.bought, x.number, x.size, is, e)
		}
	}
	// What is above Room is not possible, also if it is so for the Hi alone, and
	// by crates of several kinds.
	tight := plain(0, 10, 1000, 9, 0, 0, 1)
	tight.Start[0] = to(2, 4)
	small := []stock.Crate{{Size: 0, Bulbs: 3, Most: 9}, {Size: 0, Bulbs: 1, Most: 9}}
	for _, x := range []struct {
		bought []int
		want   bool
	}{{[]int{2, 0}, true}, {[]int{2, 1}, false}, {[]int{0, 6}, true}, {[]int{0, 7}, false}, {[]int{1, 3}, true}, {[]int{3, 0}, false}} {
		for number, want := range map[int]bool{0: x.want, 8: x.want, 9: false} {
			if is, e := stock.Enough(tight, small, x.bought, 0, number); is != want || e != api.OK {
				t.Errorf("Enough of %v for %d: %v, %v", x.bought, number, is, e)
			}
		}
	}
	if is, e := stock.Enough(field(), nil, nil, 1, 307); !is || e != api.OK {
		t.Errorf("Enough of no crates: %v, %v", is, e)
	}
}

func TestCheapest(t *testing.T) {
	row := plain(10, 20, 1000, 20, 0, 0, 1)
	crate := func(bulbs, price, most int) stock.Crate { return stock.Crate{Bulbs: bulbs, Price: price, Most: most} }
	for _, x := range []struct {
		p            stock.Plan
		l            []stock.Crate
		size, number int
		want         []int
		price        int
		e            api.Errno
	}{
		{field(), crates(), 1, 400, []int{0, 1}, 30, api.OK},
		{field(), crates(), 1, 307, []int{0, 0}, 0, api.OK},
		{field(), crates(), 1, 401, nil, 0, api.ErrFail},
		{row, nil, 0, 10, nil, 0, api.OK},
		{row, nil, 0, 11, nil, 0, api.ErrFail},
		// More of the cheap ones for the same: the least list decides between equals.
		{row, []stock.Crate{crate(2, 5, 9), crate(1, 2, 9)}, 0, 14, []int{0, 4}, 8, api.OK},
		{row, []stock.Crate{crate(2, 4, 9), crate(1, 2, 9)}, 0, 14, []int{0, 4}, 8, api.OK},
		{row, []stock.Crate{crate(1, 2, 9), crate(2, 4, 9)}, 0, 14, []int{0, 2}, 8, api.OK},
		{row, []stock.Crate{crate(1, 2, 9), crate(2, 4, 1)}, 0, 14, []int{2, 1}, 8, api.OK},
		{row, []stock.Crate{crate(1, 0, 9), crate(2, 0, 9)}, 0, 13, []int{0, 2}, 0, api.OK},
		// Nothing more than is needed is bought, also for nothing.
		{row, []stock.Crate{crate(1, 0, 9)}, 0, 10, []int{0}, 0, api.OK},
		// What is above Room is no purchase.
		{row, []stock.Crate{crate(11, 1, 9)}, 0, 11, nil, 0, api.ErrFail},
		{row, []stock.Crate{crate(11, 1, 9), crate(10, 100, 1)}, 0, 11, []int{0, 1}, 100, api.OK},
		{row, []stock.Crate{crate(1, 1, 0)}, 0, 11, nil, 0, api.ErrFail},
		{row, []stock.Crate{crate(1, api.MaxPrice, 9), crate(1, api.MaxPrice, 9)}, 0, 20, []int{1, 9}, 10 * api.MaxPrice, api.OK},
		{row, []stock.Crate{crate(api.MaxPlanted, 0, 9), crate(api.MaxPlanted, 0, 9), crate(api.MaxPlanted, 0, 9), crate(10, 7, 9)}, 0, 20, []int{0, 0, 0, 1}, 7, api.OK},
	} {
		if l, n, e := stock.Cheapest(x.p, x.l, x.size, x.number); !slices.Equal(l, x.want) || n != x.price || e != x.e {
			t.Errorf("Cheapest of %v for %d of %d: %v, %d, %v", x.l, x.number, x.size, l, n, e)
		}
	}
}

// offered is what is asked of crates, with the error of Enough.
type offered struct {
	l            []stock.Crate
	size, number int
	want         api.Errno
}

// offers have the one that no call refuses at first.
func offers() []offered {
	good := stock.Crate{Size: 1, Bulbs: api.MaxPlanted, Price: api.MaxPrice, Most: api.MaxMost}
	few := stock.Crate{Size: 0, Bulbs: 1, Price: 0, Most: 0}
	l := []offered{
		{[]stock.Crate{good, few, good, few}, 0, api.MaxAsked, api.OK},
		{slices.Repeat([]stock.Crate{good}, api.MaxCrates+1), 0, 0, api.ErrLimit},
		{nil, -1, 0, api.ErrRange},
		{nil, 2, 0, api.ErrRange},
		{nil, 0, -1, api.ErrRange},
		{nil, 0, api.MaxAsked + 1, api.ErrRange},
		// The error that the table asks for first.
		{make([]stock.Crate, api.MaxCrates+1), 9, -1, api.ErrLimit},
		{make([]stock.Crate, 1), 9, -1, api.ErrArg},
	}
	bad := func(c stock.Crate) { l = append(l, offered{[]stock.Crate{good, c}, 0, 0, api.ErrArg}) }
	for _, n := range badNumbers(1) {
		bad(stock.Crate{Size: n, Bulbs: 1})
	}
	for _, n := range append(badNumbers(api.MaxPlanted), 0) {
		bad(stock.Crate{Bulbs: n})
	}
	for _, n := range badNumbers(api.MaxPrice) {
		bad(stock.Crate{Bulbs: 1, Price: n})
	}
	for _, n := range badNumbers(api.MaxMost) {
		bad(stock.Crate{Bulbs: 1, Most: n})
	}
	return l
}

func TestOfferErrors(t *testing.T) {
	for _, x := range offers() {
		want := x.want
		if want == api.OK {
			want = api.ErrFail
		}
		if l, n, e := stock.Cheapest(field(), x.l, x.size, x.number); e != want || l != nil || n != 0 {
			t.Errorf("Cheapest of %v for %d of %d: %v, %d, %v", x.l, x.number, x.size, l, n, e)
		}
		// The purchase is looked at last.
		bought := make([]int, len(x.l))
		if is, e := stock.Enough(field(), x.l, bought, x.size, x.number); e != x.want || is {
			t.Errorf("Enough of %v for %d of %d: %v, %v", x.l, x.number, x.size, is, e)
		}
		if want == api.ErrFail {
			want = api.ErrRange
		}
		if is, e := stock.Enough(field(), x.l, append(bought, 0), x.size, x.number); e != want || is {
			t.Errorf("Enough of %v for %d of %d: %v, %v", x.l, x.number, x.size, is, e)
		}
	}
}

func TestCratesAsModel(t *testing.T) {
	eachSmall(t, 100, func(r *rand.Rand, p stock.Plan) {
		size := r.Intn(len(p.Start))
		l := randomCrates(r, p)
		for _, number := range askedOf(r, p, size) {
			var best []int
			price, found := 0, false
			eachPurchase(l, func(bought []int) {
				cost := 0
				for kind, n := range bought {
					cost += n * l[kind].Price
				}
				want := modelEnough(p, l, bought, size, number)
				if is, e := stock.Enough(p, l, bought, size, number); is != want || e != api.OK {
					t.Errorf("Enough of %v of %v for %d of %d of %v: %v, %v", bought, l, number, size, p, is, e)
				}
				if want && (!found || cost < price) {
					best, price, found = bought, cost, true
				}
			})
			purchase, cost, e := stock.Cheapest(p, l, size, number)
			if found != (e == api.OK) || !found && e != api.ErrFail || !slices.Equal(purchase, best) || cost != price {
				t.Errorf("Cheapest of %v for %d of %d of %v: %v, %d, %v, not %v, %d", l, number, size, p, purchase, cost, e, best, price)
			}
		}
	})
}

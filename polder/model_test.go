package polder_test

import (
	"math/rand"
	"slices"
	"testing"

	"bybloem/api"
	"bybloem/polder"
)

// The model looks at every rule of a small polder, and at all rain. Of great ones it
// asks whether tables keep and need, in the words of the chapter. Random polders,
// always the same ones, are done by both.

// never is the number of a level that cannot be held.
const never = -1

// rule is the amount that is moved on each day, at each level from Low on.
type rule [][]int

// from is the polder from a day on.
func from(p polder.Polder, day int) polder.Polder {
	p.Days = p.Days[day:]
	return p
}

// modelAll calls a function with all lists of a number of each range.
func modelAll(ranges []polder.Range, use func(numbers []int)) {
	numbers := make([]int, len(ranges))
	var choose func(n int)
	choose = func(n int) {
		if n == len(ranges) {
			use(numbers)
			return
		}
		for i := ranges[n].Lo; i <= ranges[n].Hi; i++ {
			numbers[n] = i
			choose(n + 1)
		}
	}
	choose(0)
}

// modelRains calls a function with all rain.
func modelRains(p polder.Polder, use func(rains []int)) {
	var ranges []polder.Range
	for _, d := range p.Days {
		ranges = append(ranges, d.Rain)
	}
	modelAll(ranges, use)
}

// modelRules calls a function with all rules.
func modelRules(p polder.Polder, use func(x rule)) {
	levels := p.High - p.Low + 1
	modelAll(slices.Repeat([]polder.Range{to(-p.Inlet, p.Pump)}, len(p.Days)*levels), func(amounts []int) {
		use(slices.Collect(slices.Chunk(amounts, levels)))
	})
}

// at is the amount of the rule.
func (x rule) at(p polder.Polder, day, level int) int { return x[day][level-p.Low] }

func modelPrice(p polder.Polder, day, amount int) int {
	cost := 0
	for ; amount < 0; amount++ {
		cost += p.Days[day].In
	}
	for ; amount > 0; amount-- {
		cost += p.Days[day].Out
	}
	return cost
}

func isKept(p polder.Polder, level int) bool { return has(to(p.Low, p.High), level) }

// followed is what happens by a rule.
type followed struct {
	levels, amounts []int
	cost            int
	isKept          bool
}

// modelFollow follows what is moved up to the first level that is not kept.
func modelFollow(p polder.Polder, start int, rains []int, move func(day, level int) int) followed {
	var f followed
	level := start
	for day, rain := range rains {
		amount := move(day, level)
		level = level + rain - p.Days[day].Seep - amount
		f.cost += modelPrice(p, day, amount)
		f.levels, f.amounts = append(f.levels, level), append(f.amounts, amount)
		if !isKept(p, level) {
			return f
		}
	}
	f.isKept = true
	return f
}

// modelWorst is what a rule costs at worst from a level on the first day, or never if
// it does not hold.
func modelWorst(p polder.Polder, x rule, level int) int {
	worst := 0
	modelRains(p, func(rains []int) {
		if worst == never {
			return
		}
		f := modelFollow(p, level, rains, func(day, level int) int { return x.at(p, day, level) })
		if !f.isKept {
			worst = never
			return
		}
		worst = max(worst, f.cost)
	})
	return worst
}

// modelTable looks at all rules from each day on.
func modelTable(p polder.Polder) [][]int {
	var table [][]int
	for day := range p.Days {
		rest := from(p, day)
		l := slices.Repeat([]int{never}, p.High-p.Low+1)
		modelRules(rest, func(x rule) {
			for n := range l {
				cost := modelWorst(rest, x, p.Low+n)
				if cost != never && (l[n] == never || cost < l[n]) {
					l[n] = cost
				}
			}
		})
		table = append(table, l)
	}
	return append(table, make([]int, p.High-p.Low+1))
}

// modelNext is the greatest number of the levels that may come, or never.
func modelNext(p polder.Polder, table [][]int, day, level, amount int) int {
	d := p.Days[day]
	worst := 0
	for rain := d.Rain.Lo; rain <= d.Rain.Hi; rain++ {
		next := level + rain - d.Seep - amount
		if !isKept(p, next) || table[day+1][next-p.Low] == never {
			return never
		}
		worst = max(worst, table[day+1][next-p.Low])
	}
	return worst
}

// modelBest looks at all amounts, by the table of the least costs.
func modelBest(p polder.Polder, table [][]int, day, level int) (amount, cost int) {
	amount, cost = 0, never
	for n := p.Pump; n >= -p.Inlet; n-- {
		next := modelNext(p, table, day, level, n)
		if next == never {
			continue
		}
		if sum := modelPrice(p, day, n) + next; cost == never || sum <= cost {
			amount, cost = n, sum
		}
	}
	return amount, cost
}

// modelHold are the ranges of the levels that have a number, and nil if a day has
// none.
func modelHold(p polder.Polder, table [][]int) []polder.Range {
	var ranges []polder.Range
	for day := range p.Days {
		var levels []int
		for n, cost := range table[day] {
			if cost != never {
				levels = append(levels, p.Low+n)
			}
		}
		if len(levels) == 0 {
			return nil
		}
		ranges = append(ranges, to(levels[0], levels[len(levels)-1]))
	}
	return ranges
}

// modelCost is the cost of the polder, or never.
func modelCost(p polder.Polder, table [][]int) int {
	l := table[0][p.Start.Lo-p.Low : p.Start.Hi-p.Low+1]
	if slices.Contains(l, never) {
		return never
	}
	return slices.Max(l)
}

// modelKeeps looks at all amounts for all rain.
func modelKeeps(p polder.Polder, table [][]int) bool {
	for day, d := range p.Days {
		for level := p.Low; level <= p.High; level++ {
			number := table[day][level-p.Low]
			isEnough := func(amount int) bool {
				for rain := d.Rain.Lo; rain <= d.Rain.Hi; rain++ {
					next := level + rain - d.Seep - amount
					if !isKept(p, next) || table[day+1][next-p.Low] < 0 || table[day+1][next-p.Low]+modelPrice(p, day, amount) > number {
						return false
					}
				}
				return true
			}
			if number >= 0 && !slices.ContainsFunc(numbers(-p.Inlet, p.Pump), isEnough) {
				return false
			}
		}
	}
	return true
}

// modelNeeds looks at all rain for each amount.
func modelNeeds(p polder.Polder, table [][]int) bool {
	for day, d := range p.Days {
		for level := p.Low; level <= p.High; level++ {
			number := table[day][level-p.Low]
			for _, amount := range numbers(-p.Inlet, p.Pump) {
				is := func(rain int) bool {
					next := level + rain - d.Seep - amount
					if !isKept(p, next) || table[day+1][next-p.Low] == never {
						return true
					}
					return number != never && table[day+1][next-p.Low]+modelPrice(p, day, amount) >= number
				}
				if !slices.ContainsFunc(numbers(d.Rain.Lo, d.Rain.Hi), is) {
					return false
				}
			}
		}
	}
	return true
}

// numbers are all from low to high.
func numbers(low, high int) []int {
	var l []int
	for n := low; n <= high; n++ {
		l = append(l, n)
	}
	return l
}

// shape is how great a random polder is at most: its levels, the amounts of a day,
// its days, how much of the rain is not known, and the prices.
type shape struct{ levels, amounts, days, rain, tariff int }

// small are shapes of which each rule can be looked at.
var (
	small  = []shape{{3, 3, 2, 2, 9}, {2, 4, 3, 1, 3}, {4, 3, 2, 3, 2}, {5, 2, 2, 3, 9}, {6, 4, 1, 6, 5}, {2, 2, 5, 1, 4}, {1, 5, 4, 0, 9}, {3, 2, 3, 2, 1}, {4, 2, 3, 2, 5}, {3, 3, 2, 2, 0}}
	middle = []shape{{12, 6, 5, 5, 10}, {20, 9, 8, 9, 3}, {9, 12, 6, 7, 1}}
	great  = []shape{{api.MaxWater + 1, 2*api.MaxDaily + 1, api.MaxDays, api.MaxRainfall, api.MaxTariff}, {api.MaxWater + 1, 9, api.MaxDays, 6, api.MaxTariff}, {30, 2*api.MaxDaily + 1, api.MaxDays, 25, 20}}
)

// allShapes has small polders and great ones.
func allShapes() []shape { return slices.Concat(great, middle, small) }

// most is mostly close to n.
func most(r *rand.Rand, n int) int { return max(r.Intn(n+1), r.Intn(n+1)) }

// randomDay has rain of which mostly about as much seeps away, or can be moved.
func randomDay(r *rand.Rand, s shape, p polder.Polder) polder.Day {
	width := min(most(r, s.rain), api.MaxRainfall)
	lowest := r.Intn(api.MaxRainfall - width + 1)
	d := polder.Day{Rain: to(lowest, lowest+width), Out: r.Intn(s.tariff + 1), In: r.Intn(s.tariff + 1)}
	middle := lowest + r.Intn(width+1)
	d.Seep = min(max(0, middle+r.Intn(p.Pump+p.Inlet+2)-p.Pump), api.MaxRainfall)
	return d
}

// randomPolder can mostly be held from some levels, and not from all.
func randomPolder(r *rand.Rand, s shape) polder.Polder {
	levels := 1 + most(r, s.levels-1)
	p := polder.Polder{Low: r.Intn(api.MaxWater + 2 - levels)}
	p.High = p.Low + levels - 1
	p.Pump = min(r.Intn(s.amounts), api.MaxDaily)
	p.Inlet = min(s.amounts-1-p.Pump, r.Intn(s.amounts), api.MaxDaily)
	p.Start.Lo = p.Low + r.Intn(levels)
	p.Start.Hi = p.Start.Lo + r.Intn(min(p.High-p.Start.Lo, 1+levels/4)+1)
	for range 1 + most(r, s.days-1) {
		p.Days = append(p.Days, randomDay(r, s, p))
	}
	return p
}

// randomRains is mostly close to the ends of the ranges.
func randomRains(r *rand.Rand, p polder.Polder) []int {
	var rains []int
	kind := r.Intn(4)
	for _, d := range p.Days {
		switch n := r.Intn(4); {
		case n > 0 && kind == 0:
			rains = append(rains, d.Rain.Lo)
		case n > 0 && kind == 1:
			rains = append(rains, d.Rain.Hi)
		default:
			rains = append(rains, within(r, d.Rain))
		}
	}
	return rains
}

// within is a random number of the range.
func within(r *rand.Rand, x polder.Range) int { return x.Lo + r.Intn(x.Hi-x.Lo+1) }

// eachPolder calls a test with random polders of these shapes.
func eachPolder(t *testing.T, n int, shapes []shape, test func(r *rand.Rand, p polder.Polder)) {
	t.Helper()
	r := rand.New(rand.NewSource(11))
	for i := range n {
		test(r, randomPolder(r, shapes[i%len(shapes)]))
		if t.Failed() {
			return
		}
	}
}

// eachHeld calls a test with those of random polders that can be held.
func eachHeld(t *testing.T, n int, shapes []shape, test func(r *rand.Rand, p polder.Polder, cost int)) {
	t.Helper()
	held := 0
	eachPolder(t, n, shapes, func(r *rand.Rand, p polder.Polder) {
		if cost, e := polder.Least(p); e == api.OK {
			held++
			test(r, p, cost)
		}
	})
	if held < n/5 {
		t.Errorf("%d of %d can be held", held, n)
	}
}

// counts tells how often what tests are about was so, and was not.
type counts map[string]int

func (c counts) add(name string, is bool) {
	if !is {
		name = "not " + name
	}
	c[name]++
}

// TestRandomPolders asks whether the random polders have what the other tests are
// about at all.
func TestRandomPolders(t *testing.T) {
	c := counts{}
	for _, shapes := range [][]shape{small, great, middle} {
		eachPolder(t, 300, shapes, func(r *rand.Rand, p polder.Polder) {
			table := mustTable(t, p)
			ranges, e := polder.Hold(p)
			cost := modelCost(p, table)
			c.add("held from some level", e == api.OK)
			c.add("held", cost != never)
			if cost == never {
				return
			}
			c.add("held for nothing", cost == 0)
			c.add("held from all levels of all days", !slices.ContainsFunc(table, func(l []int) bool { return slices.Contains(l, never) }))
			c.add("with levels below that are not held", ranges[0].Lo > p.Low)
			c.add("with levels above that are not held", ranges[0].Hi < p.High)
			c.countDays(p, table)
		})
	}
	for name, n := range c {
		if n < 20 {
			t.Errorf("%s: %d times", name, n)
		}
	}
	if len(c) != 22 {
		t.Errorf("not all that was counted was so, and was not so: %v", c)
	}
}

func (c counts) countDays(p polder.Polder, table [][]int) {
	for day := range p.Days {
		for level := p.Low; level <= p.High; level++ {
			amount, cost := modelBest(p, table, day, level)
			if cost == never {
				continue
			}
			c.add("pumped out", amount > 0)
			c.add("let in", amount < 0)
			c.add("the most", amount == p.Pump || amount == -p.Inlet)
			c.add("one of several amounts", amount < p.Pump && modelPrice(p, day, amount+1)+modelNext(p, table, day, level, amount+1) == cost)
			c.add("cheaper with more than the least amount", amount > -p.Inlet && modelNext(p, table, day, level, amount-1) != never)
		}
	}
}

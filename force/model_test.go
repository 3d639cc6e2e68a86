package force_test

import (
	"math/rand"
	"slices"
	"testing"

	"bybloem/api"
	"bybloem/force"
)

// The model looks at every bulb of a small lot, at all of its programs, and at
// all beds for a few stays. Random lots and stays, always the same ones, are done
// by both. Great lots, of which this would take too long, come with some of their
// bulbs.

const never = -1

// needs are what a bulb needs in each phase.
type needs = [3]int

// modelTemps are the temperatures of all days.
func modelTemps(program []force.Block) []int {
	var temps []int
	for _, x := range program {
		temps = append(temps, slices.Repeat([]int{x.Temp}, x.Days)...)
	}
	return temps
}

func modelCost(l force.Lot, program []force.Block) int {
	cost := 0
	for _, temp := range modelTemps(program) {
		cost += l.Prices[temp]
	}
	return cost
}

// modelFlower takes the days of one phase after the other from the program.
func modelFlower(l force.Lot, program []force.Block, n needs) int {
	temps, day := modelTemps(program), 0
	for phase, need := range n {
		for got := 0; got < need; day++ {
			if day == len(temps) {
				return never
			}
			got += l.Points[phase][temps[day]]
		}
	}
	return day - 1
}

// modelBulbs are the needs of all bulbs of a size.
func modelBulbs(s force.Size) []needs {
	var bulbs []needs
	for form := s.Needs[0].Lo; form <= s.Needs[0].Hi; form++ {
		for chill := s.Needs[1].Lo; chill <= s.Needs[1].Hi; chill++ {
			for grow := s.Needs[2].Lo; grow <= s.Needs[2].Hi; grow++ {
				bulbs = append(bulbs, needs{form, chill, grow})
			}
		}
	}
	return bulbs
}

// modelDays looks at all bulbs of all sizes.
func modelDays(l force.Lot, program []force.Block) []force.Range {
	var days []force.Range
	for _, s := range l.Sizes {
		var flowers []int
		all := modelBulbs(s)
		for _, n := range all {
			if day := modelFlower(l, program, n); day != never {
				flowers = append(flowers, day)
			}
		}
		d := to(never, never)
		if len(flowers) > 0 {
			d.Lo = slices.Min(flowers)
		}
		if len(flowers) == len(all) {
			d.Hi = slices.Max(flowers)
		}
		days = append(days, d)
	}
	return days
}

// modelMeets looks at all bulbs of all sizes, too.
func modelMeets(l force.Lot, program []force.Block, date force.Range) bool {
	for _, s := range l.Sizes {
		for _, n := range modelBulbs(s) {
			if day := modelFlower(l, program, n); day == never || !has(date, day) {
				return false
			}
		}
	}
	return true
}

// modelPrograms are all programs of so many days.
func modelPrograms(temps, days, most int) [][]force.Block {
	var all [][]force.Block
	for temp := range temps {
		all = append(all, []force.Block{b(temp, days)})
		for first := 1; first < days && most > 1; first++ {
			for _, behind := range modelPrograms(temps, days-first, most-1) {
				all = append(all, slices.Concat([]force.Block{b(temp, first)}, behind))
			}
		}
	}
	return all
}

// modelRank is less for the better one of two programs.
func modelRank(l force.Lot, program []force.Block) []int {
	rank := []int{modelCost(l, program), len(program)}
	for _, x := range program {
		rank = append(rank, x.Temp, x.Days)
	}
	return rank
}

// modelBest returns the best program, or none.
func modelBest(l force.Lot, days int, date force.Range) []force.Block {
	var best []force.Block
	for _, program := range modelPrograms(len(l.Prices), days, api.MaxBlocks) {
		if !modelMeets(l, program, date) {
			continue
		}
		if best == nil || slices.Compare(modelRank(l, program), modelRank(l, best)) < 0 {
			best = program
		}
	}
	return best
}

// modelOn counts the stays that have a day.
func modelOn(l []force.Stay, day int) int {
	count := 0
	for _, s := range l {
		if s.In <= day && day <= s.Out {
			count++
		}
	}
	return count
}

// modelAreBeds looks at the beds of each day. They are numbers of any kind.
func modelAreBeds(l []force.Stay, beds []int) bool {
	if len(l) != len(beds) {
		return false
	}
	for day := range api.MaxForcing {
		inUse := map[int]bool{}
		for n, s := range l {
			if day < s.In || s.Out < day {
				continue
			}
			if inUse[beds[n]] {
				return false
			}
			inUse[beds[n]] = true
		}
	}
	return true
}

// modelProves tells what ProveBeds has to say of stays that are valid.
func modelProves(l []force.Stay, beds []int, day int) bool {
	if !modelAreBeds(l, beds) {
		return false
	}
	if len(l) == 0 {
		return day == -1
	}
	many := 0
	for slices.Contains(beds, many) {
		many++
	}
	return slices.Min(beds) == 0 && slices.Max(beds) == many-1 && modelOn(l, day) >= many
}

// modelAllBeds calls a function with all lists of so many beds up to a greatest
// number, until it returns true, and tells whether it did.
func modelAllBeds(many, from, up int, isEnough func(beds []int) bool) bool {
	beds := make([]int, many)
	var choose func(n int) bool
	choose = func(n int) bool {
		if n == many {
			return isEnough(beds)
		}
		for beds[n] = from; beds[n] <= up; beds[n]++ {
			if choose(n + 1) {
				return true
			}
		}
		return false
	}
	return choose(0)
}

// modelFewest looks for beds for some stays, with one bed more each time.
func modelFewest(l []force.Stay) int {
	fewest := 0
	for !modelAllBeds(len(l), 0, fewest-1, func(beds []int) bool { return modelAreBeds(l, beds) }) {
		fewest++
	}
	return fewest
}

// shape is how great a random lot is at most: its temperatures and sizes, the
// prices, the points of a day, how much is not known of the needs, and the days
// of its programs.
type shape struct{ temps, sizes, price, points, open, days int }

// small are shapes of which each bulb can be looked at.
var (
	small  = []shape{{3, 2, 3, 3, 2, 6}, {2, 3, 1, 2, 2, 8}, {2, 1, 9, 4, 4, 7}, {4, 4, 2, 3, 1, 5}, {1, 2, 5, 3, 2, 9}, {3, 1, 0, 9, 3, 6}}
	middle = []shape{{3, 3, 20, 10, 12, 15}, {4, 2, 3, 5, 6, 12}}
	great  = []shape{{api.MaxTemps, api.MaxGrades, api.MaxHeating, api.MaxPoints, 300, api.MaxForcing}, {api.MaxTemps, 2, 9, 20, 60, api.MaxForcing}, {2, api.MaxGrades, 100, api.MaxPoints, 20, 30}}
)

// atLeast is a number from 1 up to the most, greater ones being more likely.
func atLeast(r *rand.Rand, most int) int { return 1 + max(r.Intn(most), r.Intn(most)) }

func randomBlocks(r *rand.Rand, temps, days int) []force.Block {
	var program []force.Block
	many := min(atLeast(r, api.MaxBlocks), days)
	for n := range many {
		last := days
		if behind := many - 1 - n; behind > 0 {
			last = 1 + r.Intn(days-behind)
		}
		program = append(program, b(r.Intn(temps), last))
		days -= last
	}
	return program
}

// randomLot is a lot, a number of days, and a date that is mostly met by some
// programs of so many days, but not by all.
func randomLot(r *rand.Rand, s shape) (l force.Lot, days int, date force.Range) {
	temps := atLeast(r, s.temps)
	for range temps {
		l.Prices = append(l.Prices, r.Intn(s.price+1))
	}
	for phase := range l.Points {
		for range temps {
			points := r.Intn(s.points + 1)
			if r.Intn(4) == 0 {
				points = 0
			}
			l.Points[phase] = append(l.Points[phase], points)
		}
	}
	days = 3 + r.Intn(s.days-2)
	program := randomBlocks(r, temps, days)
	for range atLeast(r, s.sizes) {
		l.Sizes = append(l.Sizes, randomSize(r, s, l, program))
	}
	return l, days, randomDate(r, l, program)
}

// randomSize is a size of which most bulbs flower by the program.
func randomSize(r *rand.Rand, s shape, l force.Lot, program []force.Block) force.Size {
	var size force.Size
	temps := modelTemps(program)
	from := 0
	for phase := range size.Needs {
		got := 0
		for n := 1 + r.Intn(len(temps)/3+1); n > 0 && from < len(temps); n-- {
			got += l.Points[phase][temps[from]]
			from++
		}
		x := to(max(1, got-r.Intn(s.open+1)), max(1, got))
		if r.Intn(8) == 0 {
			x.Hi += r.Intn(s.open + 1)
		}
		size.Needs[phase] = to(min(x.Lo, api.MaxNeed), min(x.Hi, api.MaxNeed))
	}
	return size
}

// randomDate is mostly one that the program nearly meets.
func randomDate(r *rand.Rand, l force.Lot, program []force.Block) force.Range {
	date := to(r.Intn(api.MaxForcing), r.Intn(api.MaxForcing))
	if r.Intn(6) > 0 {
		date = to(api.MaxForcing-1, 0)
		for _, s := range l.Sizes {
			for _, n := range []needs{leastOf(s), greatestOf(s)} {
				if day := modelFlower(l, program, n); day != never {
					date = to(min(date.Lo, day), max(date.Hi, day))
				}
			}
		}
		date = to(max(0, date.Lo-r.Intn(3)), min(api.MaxForcing-1, date.Hi+r.Intn(3)))
	}
	return to(min(date.Lo, date.Hi), max(date.Lo, date.Hi))
}

func leastOf(s force.Size) needs {
	return needs{s.Needs[0].Lo, s.Needs[1].Lo, s.Needs[2].Lo}
}

func greatestOf(s force.Size) needs {
	return needs{s.Needs[0].Hi, s.Needs[1].Hi, s.Needs[2].Hi}
}

func randomNeeds(r *rand.Rand, s force.Size) needs {
	var n needs
	for phase, x := range s.Needs {
		n[phase] = x.Lo + r.Intn(x.Hi-x.Lo+1)
		switch r.Intn(4) {
		case 0:
			n[phase] = x.Lo
		case 1:
			n[phase] = x.Hi
		}
	}
	return n
}

// randomStays are so many stays at most, within so many days.
func randomStays(r *rand.Rand, most, days int) []force.Stay {
	var l []force.Stay
	long := 1 + r.Intn(days)
	for range r.Intn(most + 1) {
		in := r.Intn(days)
		l = append(l, force.Stay{In: in, Out: min(in+r.Intn(long), days-1)})
	}
	return l
}

// eachLot calls a test with random lots of these shapes.
func eachLot(t *testing.T, n int, shapes []shape, test func(r *rand.Rand, l force.Lot, days int, date force.Range)) {
	t.Helper()
	r := rand.New(rand.NewSource(8))
	for i := range n {
		l, days, date := randomLot(r, shapes[i%len(shapes)])
		test(r, l, days, date)
		if t.Failed() {
			return
		}
	}
}

// eachStays calls a test with random stays, few and many.
func eachStays(t *testing.T, n int, test func(r *rand.Rand, l []force.Stay)) {
	t.Helper()
	r := rand.New(rand.NewSource(9))
	for i := range n {
		var l []force.Stay
		switch i % 3 {
		case 0:
			l = randomStays(r, 5, 8)
		case 1:
			l = randomStays(r, api.MaxStays, api.MaxForcing)
		default:
			l = randomStays(r, api.MaxStays, 10)
		}
		test(r, l)
		if t.Failed() {
			return
		}
	}
}

// allShapes has small lots and great ones.
func allShapes() []shape { return slices.Concat(great, middle, small) }

// TestRandomLots asks whether the random lots have what the other tests are about
// at all.
func TestRandomLots(t *testing.T) {
	counts := map[string]int{}
	count := func(name string, is bool) {
		if is {
			counts[name]++
		} else {
			counts["not "+name]++
		}
	}
	eachLot(t, 1200, allShapes(), func(r *rand.Rand, l force.Lot, days int, date force.Range) {
		best, cost, e := force.Best(l, days, date)
		count("met", e == api.OK)
		count("met by one block", len(best) == 1)
		count("met by two", len(best) == 2)
		count("met by three", len(best) == 3)
		count("met for money", cost > 0)
		count("more sizes than one", len(l.Sizes) > 1)
		met := 0
		for range 10 {
			program := randomBlocks(r, len(l.Prices), days)
			is, _ := force.Meets(l, program, date)
			if is {
				met++
				count("the best", slices.Equal(program, best))
			}
			all, _ := force.Days(l, program)
			for _, d := range all {
				count("sure", d.Hi != never)
				count("possible", d.Lo != never)
				count("open", d.Hi != never && d.Lo < d.Hi)
				count("only perhaps", d.Hi == never && d.Lo != never)
			}
		}
		count("met by some", met > 0)
		count("met by all", met == 10)
	})
	for name, n := range counts {
		if n < 20 {
			t.Errorf("%s: %d times", name, n)
		}
	}
	if len(counts) != 26 {
		t.Errorf("not all that was counted was so, and was not so: %v", counts)
	}
}

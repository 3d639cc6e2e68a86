package store_test

import (
	"math"
	"math/rand"
	"slices"
	"testing"

	"bybloem/api"
	"bybloem/store"
)

// The model looks at every truth of a small store, at all doors, and at every
// girth of the bulbs of a small heap. Random stores and heaps, always the same
// ones, are done by both. Great stores, of which this would take too long, come
// with some of their truths.

const nobody = -1

// modelAir follows the gas through a truth.
func modelAir(s store.Store, doors []int, bad int, truth store.Truth) []int {
	var levels []int
	gas := truth.Start
	for hour := range s.Hours {
		part := s.Leak
		if slices.Contains(doors, hour) {
			part = s.Open
		}
		left := gas * part
		gas -= (left - left%1000) / 1000
		for n, c := range s.Crates {
			if hour < c.From || c.To <= hour {
				continue
			}
			gas += truth.Breath[hour][n]
			if n == bad {
				gas += truth.Gas[hour]
			}
		}
		levels = append(levels, gas)
	}
	return levels
}

// modelGas is what the bad crate gives off besides.
func modelGas(s store.Store, bad int) store.Range {
	if bad == nobody {
		return store.Range{}
	}
	return s.Crates[bad].Gas
}

// modelRanges are the ranges of a truth: that of the start, and then for each
// hour those of all breaths and that of the gas.
func modelRanges(s store.Store, bad int) []store.Range {
	l := []store.Range{s.Start}
	for range s.Hours {
		for _, c := range s.Crates {
			l = append(l, c.Breath)
		}
		l = append(l, modelGas(s, bad))
	}
	return l
}

// modelTruth makes a truth of a number of each of these ranges.
func modelTruth(s store.Store, numbers []int) store.Truth {
	truth := store.Truth{Start: numbers[0]}
	for hour := range s.Hours {
		from := 1 + hour*(len(s.Crates)+1)
		gas := from + len(s.Crates)
		truth.Breath = append(truth.Breath, slices.Clone(numbers[from:gas]))
		truth.Gas = append(truth.Gas, numbers[gas])
	}
	return truth
}

// modelAll calls a function with all lists of a number of each range.
func modelAll(ranges []store.Range, use func(numbers []int)) {
	numbers := make([]int, len(ranges))
	var choose func(n int)
	choose = func(n int) {
		if n == len(ranges) {
			use(numbers)
			return
		}
		for i := ranges[n].Lo; i <= ranges[n].Hi; i++ {
			numbers[n] = i
			choose(n + 1)
		}
	}
	choose(0)
}

// modelLevels looks at all truths.
func modelLevels(s store.Store, doors []int, bad int) []store.Range {
	levels := slices.Repeat([]store.Range{to(math.MaxInt, -1)}, s.Hours)
	modelAll(modelRanges(s, bad), func(numbers []int) {
		for hour, gas := range modelAir(s, doors, bad, modelTruth(s, numbers)) {
			levels[hour] = to(min(levels[hour].Lo, gas), max(levels[hour].Hi, gas))
		}
	})
	return levels
}

func modelWho(s store.Store) []int {
	who := []int{nobody}
	for n, c := range s.Crates {
		if c.Suspect {
			who = append(who, n)
		}
	}
	return who
}

// modelDoors returns all doors, the best ones first.
func modelDoors(s store.Store) [][]int {
	all := [][]int{nil}
	for _, hour := range s.Times {
		for _, doors := range all {
			all = append(all, slices.Concat(doors, []int{hour}))
		}
	}
	slices.SortFunc(all, func(a, b []int) int {
		if len(a) != len(b) {
			return len(a) - len(b)
		}
		return slices.Compare(a, b)
	})
	return all
}

// modelSafe tells whether doors are safe, by the levels of all who can be bad.
func modelSafe(s store.Store, levels map[int][]store.Range) bool {
	for _, bad := range modelWho(s) {
		for _, r := range levels[bad] {
			if r.Hi > s.Limit {
				return false
			}
		}
	}
	return true
}

// modelClear returns those who are left by the levels of all.
func modelClear(s store.Store, levels map[int][]store.Range, readings []store.Reading) []int {
	clears := func(bad int) bool {
		for _, x := range readings {
			r, common := levels[bad][x.Hour], 0
			for gas := r.Lo; gas <= r.Hi; gas++ {
				if has(x.Air, gas) {
					common++
				}
			}
			if common == 0 {
				return true
			}
		}
		return false
	}
	return slices.DeleteFunc(modelWho(s), clears)
}

// modelClass counts the holes through which a bulb does not fall.
func modelClass(holes []int, girth int) int {
	class := 0
	for _, hole := range holes {
		if girth >= hole {
			class++
		}
	}
	return class
}

// modelCrates fills one crate after the other.
func modelCrates(bulbs, each int) int {
	crates := 0
	for ; bulbs > 0; bulbs -= each {
		crates++
	}
	return crates
}

func modelNumbers(holes []int, girths []int) []int {
	numbers := make([]int, len(holes)+1)
	for _, girth := range girths {
		numbers[modelClass(holes, girth)]++
	}
	return numbers
}

// modelRiddle looks at all girths of all bulbs.
func modelRiddle(holes []int, bulbs []store.Range, each int) (counts, crates []store.Range) {
	counts = slices.Repeat([]store.Range{to(math.MaxInt, -1)}, len(holes)+1)
	crates = slices.Clone(counts)
	modelAll(bulbs, func(girths []int) {
		for class, n := range modelNumbers(holes, girths) {
			counts[class] = to(min(counts[class].Lo, n), max(counts[class].Hi, n))
			c := modelCrates(n, each)
			crates[class] = to(min(crates[class].Lo, c), max(crates[class].Hi, c))
		}
	})
	return counts, crates
}

// shape is how great a random store is at most: its hours, crates and times, the
// gas that there is or is given off, and how much is not known of it.
type shape struct{ hours, crates, times, gas, open int }

// small are shapes of which each truth can be looked at.
var (
	small  = []shape{{3, 2, 3, 20, 1}, {2, 2, 2, 9, 2}, {3, 1, 3, 60, 2}, {4, 1, 4, 5, 1}, {1, 4, 1, 9, 2}, {2, 3, 2, 300, 1}, {6, 0, 6, 90, 9}}
	middle = []shape{{6, 4, 6, 50, 20}, {9, 3, 7, 1000, 200}}
	great  = []shape{{api.MaxHours, api.MaxShelf, api.MaxTimes, api.MaxGas, api.MaxGas}, {api.MaxHours, api.MaxShelf, api.MaxTimes, 100, 40}, {api.MaxHours, 2, 5, 9, 3}, {12, 5, 8, 1000, 20}}
)

func randomRange(r *rand.Rand, s shape) store.Range {
	g := store.Range{Lo: r.Intn(s.gas + 1)}
	if r.Intn(5) == 0 {
		g.Lo = 0
	}
	g.Hi = g.Lo
	if r.Intn(4) > 0 {
		g.Hi = min(g.Lo+r.Intn(s.open+1), api.MaxGas)
	}
	return g
}

func randomCrate(r *rand.Rand, s shape, hours int) store.Crate {
	c := store.Crate{To: api.MaxHours, Breath: randomRange(r, s), Gas: randomRange(r, s), Suspect: r.Intn(3) > 0}
	if r.Intn(2) == 0 {
		c.From = r.Intn(hours + 1)
		c.To = c.From + r.Intn(min(hours+3, api.MaxHours)-c.From+1)
	}
	return c
}

// randomStore is a store of which mostly some doors are safe, and some are not.
func randomStore(r *rand.Rand, s shape) store.Store {
	x := store.Store{Hours: max(r.Intn(s.hours+1), r.Intn(s.hours+1)), Start: randomRange(r, s)}
	for range max(r.Intn(s.crates+1), r.Intn(s.crates+1)) {
		x.Crates = append(x.Crates, randomCrate(r, s, x.Hours))
	}
	parts := []int{r.Intn(1001), r.Intn(1001), r.Intn(300), 0, 1000}
	x.Leak, x.Open = parts[r.Intn(4)], parts[r.Intn(5)]
	x.Leak, x.Open = min(x.Leak, x.Open), max(x.Leak, x.Open)
	x.Times = randomHours(r, x.Hours, s.times)
	who := modelWho(x)
	for _, gas := range modelAir(x, someOf(r, x.Times), who[len(who)-1], modelEnd(x, who[len(who)-1], true)) {
		x.Limit = max(x.Limit, gas)
	}
	x.Limit = max(0, min(x.Limit+r.Intn(s.open+2)-r.Intn(3), api.MaxAir))
	return x
}

// randomHours are so many hours at most, rising.
func randomHours(r *rand.Rand, hours, most int) []int {
	l := r.Perm(hours)[:min(hours, max(r.Intn(most+1), r.Intn(most+1)))]
	slices.Sort(l)
	return l
}

// someOf are some of the times.
func someOf(r *rand.Rand, times []int) []int {
	var doors []int
	chance := 1 + r.Intn(3)
	for _, hour := range times {
		if r.Intn(4) < chance {
			doors = append(doors, hour)
		}
	}
	return doors
}

// modelEnd is the truth with all greater, or all lesser ends.
func modelEnd(s store.Store, bad int, greater bool) store.Truth {
	var numbers []int
	for _, r := range modelRanges(s, bad) {
		if greater {
			numbers = append(numbers, r.Hi)
		} else {
			numbers = append(numbers, r.Lo)
		}
	}
	return modelTruth(s, numbers)
}

func randomTruth(r *rand.Rand, s store.Store, bad int) store.Truth {
	var numbers []int
	chance := r.Intn(3)
	for _, x := range modelRanges(s, bad) {
		n := x.Lo + r.Intn(x.Hi-x.Lo+1)
		switch {
		case chance == 0 && r.Intn(4) > 0:
			n = x.Lo
		case chance == 1 && r.Intn(4) > 0:
			n = x.Hi
		}
		numbers = append(numbers, n)
	}
	return modelTruth(s, numbers)
}

// randomReadings are so many readings at most. They have the true level in their
// ranges, if they are right.
func randomReadings(r *rand.Rand, s store.Store, levels []int, most int, right bool) []store.Reading {
	var l []store.Reading
	if s.Hours == 0 {
		return l
	}
	for range r.Intn(most + 1) {
		hour := r.Intn(s.Hours)
		width := []int{0, 1, 5, levels[hour] / 10, levels[hour]}[r.Intn(5)]
		lowest := max(0, levels[hour]-r.Intn(width+1))
		if !right {
			lowest = max(0, lowest+r.Intn(2*width+3)-width-1)
		}
		air := to(lowest, lowest+width)
		if air.Hi <= api.MaxAir {
			l = append(l, store.Reading{Hour: hour, Air: air})
		}
	}
	return l
}

func randomRiddles(r *rand.Rand, bulbs, girth, open int) (holes []int, heap []store.Range) {
	for n := range girth {
		if len(holes) < api.MaxRiddles && r.Intn(girth) < 1+r.Intn(8) {
			holes = append(holes, n+1)
		}
	}
	for range r.Intn(bulbs + 1) {
		b := store.Range{Lo: r.Intn(girth + 1)}
		b.Hi = min(b.Lo+r.Intn(open+1), girth)
		heap = append(heap, b)
	}
	return holes, heap
}

// eachStore calls a test with random stores of these shapes.
func eachStore(t *testing.T, n int, shapes []shape, test func(r *rand.Rand, s store.Store)) {
	t.Helper()
	r := rand.New(rand.NewSource(7))
	for i := range n {
		test(r, randomStore(r, shapes[i%len(shapes)]))
		if t.Failed() {
			return
		}
	}
}

// eachHeap calls a test with random heaps, small ones and great ones.
func eachHeap(t *testing.T, n int, test func(r *rand.Rand, holes []int, bulbs []store.Range)) {
	t.Helper()
	r := rand.New(rand.NewSource(8))
	for i := range n {
		var holes []int
		var bulbs []store.Range
		switch i % 3 {
		case 0:
			holes, bulbs = randomRiddles(r, 5, 12, 4)
		case 1:
			holes, bulbs = randomRiddles(r, api.MaxHeap, api.MaxGirth, 40)
		default:
			holes, bulbs = randomRiddles(r, 30, 60, 60)
		}
		test(r, holes, bulbs)
		if t.Failed() {
			return
		}
	}
}

// allShapes has small stores and great ones.
func allShapes() []shape { return slices.Concat(great, middle, small) }

// TestRandomStores asks whether the random stores have what the other tests are
// about at all.
func TestRandomStores(t *testing.T) {
	counts := map[string]int{}
	count := func(name string, is bool) {
		if is {
			counts[name]++
		} else {
			counts["not "+name]++
		}
	}
	eachStore(t, 4000, allShapes(), func(r *rand.Rand, s store.Store) {
		best, e := store.Best(s)
		count("safe", e == api.OK)
		count("safe without doors", e == api.OK && len(best) == 0)
		count("safe with two or more", len(best) > 1)
		count("safe with all of three or more", len(best) > 2 && len(best) == len(s.Times))
		count("not the last ones of more", e == api.OK && !slices.Equal(best, s.Times[len(s.Times)-len(best):]))
		count("not the first ones of more", e == api.OK && !slices.Equal(best, s.Times[:len(best)]))
		count("with suspects", len(modelWho(s)) > 1)
		truth := modelAir(s, nil, nobody, randomTruth(r, s, nobody))
		for _, right := range []bool{true, false} {
			left, e := store.Clear(s, nil, randomReadings(r, s, truth, 3, right))
			count("left", e == api.OK)
			count("cleared", e == api.OK && len(left) < len(modelWho(s)))
			count("nobody cleared", e == api.OK && !slices.Contains(left, nobody))
		}
	})
	for name, n := range counts {
		if n < 20 {
			t.Errorf("%s: %d times", name, n)
		}
	}
	if len(counts) != 20 {
		t.Errorf("not all that was counted was so, and was not so: %v", counts)
	}
}

package store_test

import (
	"math"
	"math/rand"
	"slices"
	"testing"

	"bybloem/api"
	"bybloem/store"
)

func mustAir(t *testing.T, s store.Store, doors []int, bad int, truth store.Truth) []int {
	t.Helper()
	l, e := store.Air(s, doors, bad, truth)
	if e != api.OK || len(l) != s.Hours {
		t.Fatalf("Air of %v, doors %v, %d bad, in %v: %v, %v", s, doors, bad, truth, l, e)
	}
	return l
}

func mustLevels(t *testing.T, s store.Store, doors []int, bad int) []store.Range {
	t.Helper()
	l, e := store.Levels(s, doors, bad)
	if e != api.OK || len(l) != s.Hours {
		t.Fatalf("Levels of %v, doors %v, %d bad: %v, %v", s, doors, bad, l, e)
	}
	return l
}

// bestOf returns the best doors, or whether none are safe.
func bestOf(t *testing.T, s store.Store) (doors []int, fails bool) {
	t.Helper()
	doors, e := store.Best(s)
	if e != api.OK && e != api.ErrFail || !rises(doors) {
		t.Fatalf("Best of %v: %v, %v", s, doors, e)
	}
	return doors, e == api.ErrFail
}

func cleared(t *testing.T, s store.Store, doors []int, readings []store.Reading) []int {
	t.Helper()
	left, e := store.Clear(s, doors, readings)
	if e != api.OK && e != api.ErrFail || (e == api.OK) != (len(left) > 0) || !rises(left) {
		t.Fatalf("Clear of %v, doors %v, by %v: %v, %v", s, doors, readings, left, e)
	}
	return left
}

func rises(l []int) bool { return slices.IsSorted(l) && len(slices.Compact(slices.Clone(l))) == len(l) }

// isWithin tells whether each number of a list is in another one.
func isWithin(l, all []int) bool {
	isMissing := func(n int) bool { return !slices.Contains(all, n) }
	return !slices.ContainsFunc(l, isMissing)
}

func has(r store.Range, n int) bool { return r.Lo <= n && n <= r.Hi }

// cloned is a store of which all can be changed.
func cloned(s store.Store) store.Store {
	s.Crates, s.Times = slices.Clone(s.Crates), slices.Clone(s.Times)
	return s
}

// safeDoors are some doors that are safe, if there are any.
func safeDoors(t *testing.T, r *rand.Rand, s store.Store) [][]int {
	t.Helper()
	best, fails := bestOf(t, s)
	if fails {
		return nil
	}
	all := [][]int{best, s.Times}
	for range 4 {
		more := slices.Concat(best, someOf(r, s.Times))
		slices.Sort(more)
		all = append(all, slices.Compact(more))
		if doors := someOf(r, s.Times); store.Safe(s, doors) {
			all = append(all, doors)
		}
	}
	return all
}

// P7.6

func TestWhoeverIsBad(t *testing.T) {
	safe, near := 0, 0
	eachStore(t, 600, allShapes(), func(r *rand.Rand, s store.Store) {
		for _, doors := range safeDoors(t, r, s) {
			if !store.Safe(s, doors) {
				t.Fatalf("Safe of %v, doors %v: no", s, doors)
			}
			safe++
			for _, bad := range modelWho(s) {
				truths := []store.Truth{modelEnd(s, bad, true), randomTruth(r, s, bad), randomTruth(r, s, bad)}
				for _, truth := range truths {
					for _, gas := range mustAir(t, s, doors, bad, truth) {
						if gas > s.Limit {
							t.Fatalf("doors %v of %v are safe, and %d, %d bad, in %v", doors, s, gas, bad, truth)
						}
						if gas > s.Limit-s.Limit/100 {
							near++
						}
					}
				}
			}
		}
	})
	if min(safe, near) < 500 {
		t.Errorf("%d doors were safe, %d times close to the limit", safe, near)
	}
}

func TestAnyTruth(t *testing.T) {
	eachStore(t, 600, allShapes(), func(r *rand.Rand, s store.Store) {
		doors := someOf(r, s.Times)
		for _, bad := range modelWho(s) {
			levels := mustLevels(t, s, doors, bad)
			for range 8 {
				truth := randomTruth(r, s, bad)
				for hour, gas := range mustAir(t, s, doors, bad, truth) {
					if !has(levels[hour], gas) {
						t.Fatalf("Levels of %v, doors %v, %d bad: %v, in %v %d after the hour %d", s, doors, bad, levels, truth, gas, hour)
					}
				}
			}
			least, most := mustAir(t, s, doors, bad, modelEnd(s, bad, false)), mustAir(t, s, doors, bad, modelEnd(s, bad, true))
			for hour, x := range levels {
				if x != to(least[hour], most[hour]) {
					t.Fatalf("Levels of %v, doors %v, %d bad: %v, with the ends of all ranges %v and %v", s, doors, bad, levels, least, most)
				}
			}
		}
	})
}

// P7.7

func TestFewest(t *testing.T) {
	eachStore(t, 400, allShapes(), func(r *rand.Rand, s store.Store) {
		best, fails := bestOf(t, s)
		for _, doors := range modelDoors(s) {
			if !fails && slices.Equal(doors, best) { // none that are better are safe
				break
			}
			if store.Safe(s, doors) {
				t.Fatalf("Best of %v: %v, %v, and %v are safe", s, best, fails, doors)
			}
		}
		if fails {
			return
		}
		for n := range best {
			if less := slices.Delete(slices.Clone(best), n, n+1); store.Safe(s, less) {
				t.Fatalf("Best of %v: %v, and %v are safe", s, best, less)
			}
		}
		for _, hour := range s.Times {
			if slices.Contains(best, hour) {
				continue
			}
			more := append(slices.Clone(best), hour)
			slices.Sort(more)
			if !store.Safe(s, more) {
				t.Fatalf("Best of %v: %v, and %v are not safe", s, best, more)
			}
		}
	})
}

// P7.8

func TestTrueReadings(t *testing.T) {
	eachStore(t, 800, allShapes(), func(r *rand.Rand, s store.Store) {
		doors := someOf(r, s.Times)
		for _, bad := range modelWho(s) {
			gas := mustAir(t, s, doors, bad, randomTruth(r, s, bad))
			readings := randomReadings(r, s, gas, api.MaxHeard, true)
			left := cleared(t, s, doors, readings)
			if !slices.Contains(left, bad) {
				t.Fatalf("Clear of %v, doors %v, by %v: %v, and %d is bad", s, doors, readings, left, bad)
			}
			slices.Reverse(readings)
			if l := cleared(t, s, doors, readings); !slices.Equal(l, left) {
				t.Fatalf("Clear of %v, doors %v, by %v: %v, turned %v", s, doors, readings, l, left)
			}
		}
	})
}

func TestMoreReadings(t *testing.T) {
	fewer, all := 0, 0
	eachStore(t, 1500, allShapes(), func(r *rand.Rand, s store.Store) {
		doors := someOf(r, s.Times)
		gas := mustAir(t, s, doors, nobody, randomTruth(r, s, nobody))
		more := randomReadings(r, s, gas, 4, false)
		if len(more) == 0 {
			return
		}
		n := r.Intn(len(more))
		readings := slices.Delete(slices.Clone(more), n, n+1)
		left, now := cleared(t, s, doors, readings), cleared(t, s, doors, more)
		if !isWithin(now, left) {
			t.Fatalf("Clear of %v, doors %v, by %v: %v, by %v: %v", s, doors, readings, left, more, now)
		}
		all++
		if len(now) < len(left) {
			fewer++
		}
	})
	if min(fewer, all-fewer) < 100 {
		t.Errorf("%d readings, %d of them left fewer", all, fewer)
	}
}

// P7.9

func TestSuspectsNoMore(t *testing.T) {
	better := 0
	eachStore(t, 1500, allShapes(), func(r *rand.Rand, s store.Store) {
		doors := someOf(r, s.Times)
		gas := mustAir(t, s, doors, nobody, randomTruth(r, s, nobody))
		left := cleared(t, s, doors, randomReadings(r, s, gas, 4, r.Intn(2) == 0))
		now := cloned(s)
		for n := range now.Crates {
			now.Crates[n].Suspect = s.Crates[n].Suspect && slices.Contains(left, n)
		}
		for _, doors := range safeDoors(t, r, s) {
			if !store.Safe(now, doors) {
				t.Fatalf("doors %v of %v are safe, and not with the suspects %v", doors, s, left)
			}
		}
		best, fails := bestOf(t, s)
		bestNow, failsNow := bestOf(t, now)
		if !fails && (failsNow || len(bestNow) > len(best)) {
			t.Fatalf("Best of %v: %v, with the suspects %v: %v, %v", s, best, left, bestNow, failsNow)
		}
		if fails && !failsNow || len(bestNow) < len(best) {
			better++
		}
	})
	if better < 50 {
		t.Errorf("%d times fewer doors", better)
	}
}

// P7.10

// less makes a store one with less gas, or one that may have more.
func less(r *rand.Rand, s store.Store) store.Store {
	s = cloned(s)
	lower := func(x *store.Range) { x.Hi -= r.Intn(x.Hi - x.Lo + 1) }
	kinds := 6
	if len(s.Crates) == 0 {
		kinds = 4
	}
	switch r.Intn(kinds) {
	case 0:
		lower(&s.Start)
	case 1:
		s.Leak += r.Intn(s.Open - s.Leak + 1)
	case 2:
		s.Open += r.Intn(1000 - s.Open + 1)
	case 3:
		s.Limit += r.Intn(api.MaxAir - s.Limit + 1)
	case 4:
		lower(&s.Crates[r.Intn(len(s.Crates))].Breath)
	case 5:
		lower(&s.Crates[r.Intn(len(s.Crates))].Gas)
	}
	return s
}

// noGreater asks whether doors that were safe are, and whether no greatest level
// is greater, if someone is bad who is somebody else now.
func noGreater(t *testing.T, r *rand.Rand, s, now store.Store, becomes map[int]int) (fewer bool) {
	t.Helper()
	for _, doors := range safeDoors(t, r, s) {
		if !store.Safe(now, doors) {
			t.Fatalf("doors %v of %v are safe, and not of %v", doors, s, now)
		}
	}
	doors := someOf(r, s.Times)
	for _, bad := range modelWho(s) {
		other, is := becomes[bad]
		if !is {
			other = bad
		}
		levels, lower := mustLevels(t, s, doors, bad), mustLevels(t, now, doors, other)
		for hour := range levels {
			if lower[hour].Hi > levels[hour].Hi {
				t.Fatalf("Levels, doors %v, of %v: %v, %d bad, and of %v: %v, %d bad", doors, s, levels, bad, now, lower, other)
			}
			fewer = fewer || lower[hour].Hi < levels[hour].Hi
		}
	}
	return fewer
}

func TestLess(t *testing.T) {
	lower := 0
	eachStore(t, 1500, allShapes(), func(r *rand.Rand, s store.Store) {
		if noGreater(t, r, s, less(r, s), nil) {
			lower++
		}
	})
	if lower < 300 {
		t.Errorf("%d times lower levels", lower)
	}
}

func TestCrateLess(t *testing.T) {
	lower := 0
	eachStore(t, 800, allShapes(), func(r *rand.Rand, s store.Store) {
		if len(s.Crates) == 0 {
			return
		}
		n := r.Intn(len(s.Crates))
		now := cloned(s)
		now.Crates = slices.Delete(now.Crates, n, n+1)
		becomes := map[int]int{n: nobody}
		for i := n + 1; i < len(s.Crates); i++ {
			becomes[i] = i - 1
		}
		if noGreater(t, r, s, now, becomes) {
			lower++
		}
	})
	if lower < 300 {
		t.Errorf("%d times lower levels", lower)
	}
}

// P7.11

func TestHoursBehind(t *testing.T) {
	eachStore(t, 600, allShapes(), func(r *rand.Rand, s store.Store) {
		doors := someOf(r, s.Times)
		for _, bad := range modelWho(s) {
			levels := mustLevels(t, s, doors, bad)
			for hours := range s.Hours + 1 {
				isBehind := func(hour int) bool { return hour >= hours }
				first := cloned(s)
				first.Hours, first.Times = hours, slices.DeleteFunc(first.Times, isBehind)
				l := mustLevels(t, first, slices.DeleteFunc(slices.Clone(doors), isBehind), bad)
				if !slices.Equal(l, levels[:hours]) {
					t.Fatalf("Levels of %v, doors %v, %d bad: %v, of the first %d hours %v", s, doors, bad, levels, hours, l)
				}
			}
		}
	})
}

// P7.12

func TestAnyGirth(t *testing.T) {
	eachHeap(t, 1500, func(r *rand.Rand, holes []int, bulbs []store.Range) {
		each := 1 + r.Intn(max(1, r.Intn(api.MaxHeap)))
		counts, e := store.Riddle(holes, bulbs)
		crates, f := store.Pack(holes, bulbs, each)
		if e != api.OK || f != api.OK || len(counts) != len(holes)+1 || len(crates) != len(counts) {
			t.Fatalf("Riddle, Pack of %v, %v, %d: %v, %v; %v, %v", holes, bulbs, each, counts, e, crates, f)
		}
		for range 5 {
			var girths []int
			for _, b := range bulbs {
				girths = append(girths, b.Lo+r.Intn(b.Hi-b.Lo+1))
			}
			for class, n := range modelNumbers(holes, girths) {
				if !has(counts[class], n) || !has(crates[class], modelCrates(n, each)) {
					t.Fatalf("Riddle, Pack of %v, %v, %d: %v, %v, with the girths %v: %d", holes, bulbs, each, counts, crates, girths, n)
				}
			}
		}
		least, most := 0, 0
		for _, c := range counts {
			least, most = least+c.Lo, most+c.Hi
		}
		if least > len(bulbs) || most < len(bulbs) {
			t.Fatalf("Riddle of %v, %v: %v for %d", holes, bulbs, counts, len(bulbs))
		}
		turned := slices.Clone(bulbs)
		r.Shuffle(len(turned), func(i, j int) { turned[i], turned[j] = turned[j], turned[i] })
		if c, e := store.Riddle(holes, turned); e != api.OK || !slices.Equal(c, counts) {
			t.Fatalf("Riddle of %v, %v: %v, turned %v, %v", holes, bulbs, counts, c, e)
		}
	})
}

// P2

// TestEachEnd has girths with which the classes have the ends of their counts.
func TestEachEnd(t *testing.T) {
	eachHeap(t, 600, func(r *rand.Rand, holes []int, bulbs []store.Range) {
		counts, e := store.Riddle(holes, bulbs)
		if e != api.OK {
			t.Fatalf("Riddle of %v, %v: %v, %v", holes, bulbs, counts, e)
		}
		for class := range counts {
			reached := store.Range{}
			for _, b := range bulbs {
				in := 0
				for girth := b.Lo; girth <= b.Hi; girth++ {
					if modelClass(holes, girth) == class {
						in++
					}
				}
				if in > 0 {
					reached.Hi++
				}
				if in == b.Hi-b.Lo+1 {
					reached.Lo++
				}
			}
			if counts[class] != reached {
				t.Fatalf("Riddle of %v, %v: %v, of the class %d there are %v", holes, bulbs, counts, class, reached)
			}
		}
	})
}

// R3

func TestNil(t *testing.T) {
	bare := store.Store{Hours: 2, Start: to(5, 6), Leak: 500, Open: 1000, Limit: 9}
	empty := bare
	empty.Crates, empty.Times = []store.Crate{}, []int{}
	truths := []store.Truth{{Start: 5, Breath: [][]int{nil, nil}, Gas: []int{0, 0}}, {Start: 5, Breath: [][]int{{}, {}}, Gas: []int{0, 0}}}
	for _, s := range []store.Store{bare, empty} {
		for _, doors := range [][]int{nil, {}} {
			for _, truth := range truths {
				air(t, "no crates", s, doors, nobody, truth, 3, 2)
			}
			levels(t, "no crates", s, doors, nobody, to(3, 3), to(2, 2))
			safe(t, "no crates", s, doors, true)
			leftBy(t, "no readings", s, doors, nil, nobody)
			leftBy(t, "no readings", s, doors, []store.Reading{}, nobody)
		}
		best(t, "no crates", s)
	}
	for _, hours := range []store.Truth{{}, {Breath: [][]int{}, Gas: []int{}}} {
		air(t, "no hours", store.Store{}, nil, nobody, hours)
	}
	for _, holes := range [][]int{nil, {}} {
		for _, bulbs := range [][]store.Range{nil, {}} {
			riddle(t, "nothing", holes, bulbs, 1, []store.Range{{}}, []store.Range{{}})
		}
	}
}

// R4

func TestMemory(t *testing.T) {
	eachStore(t, 100, allShapes(), func(r *rand.Rand, s store.Store) {
		bad := modelWho(s)[0]
		// Room behind each list, which no call may write into.
		s.Crates, s.Times = append(make([]store.Crate, 0, 40), s.Crates...), append(make([]int, 0, 40), s.Times...)
		doors, truth := append(make([]int, 0, 40), someOf(r, s.Times)...), randomTruth(r, s, bad)
		readings := append(make([]store.Reading, 0, 40), randomReadings(r, s, modelAir(s, doors, bad, truth), 5, true)...)
		holes, bulbs := randomRiddles(r, 9, 30, 20)
		before, doorsBefore, readingsBefore := cloned(s), slices.Clone(doors), slices.Clone(readings)
		gasBefore, holesBefore, bulbsBefore := slices.Clone(truth.Gas), slices.Clone(holes), slices.Clone(bulbs)
		var breathBefore [][]int
		for _, breath := range truth.Breath {
			breathBefore = append(breathBefore, slices.Clone(breath))
		}
		var results [2][][]int
		for n := range results {
			results[n] = allOf(t, s, doors, bad, truth, readings, holes, bulbs, r.Intn(1000))
			if !slices.Equal(s.Crates, before.Crates) || !slices.Equal(s.Times, before.Times) || !slices.Equal(doors, doorsBefore) || !slices.Equal(readings, readingsBefore) {
				t.Fatalf("%v became %v, doors %v became %v, or %v became %v", before, s, doorsBefore, doors, readingsBefore, readings)
			}
			if !slices.Equal(truth.Gas, gasBefore) || !slices.EqualFunc(truth.Breath, breathBefore, slices.Equal) || !slices.Equal(holes, holesBefore) || !slices.Equal(bulbs, bulbsBefore) {
				t.Fatalf("truth %v, holes %v became %v, or bulbs %v became %v", truth, holesBefore, holes, bulbsBefore, bulbs)
			}
		}
		if !slices.EqualFunc(results[0], results[1], slices.Equal) {
			t.Fatalf("the calls for %v return %v, and then %v", s, results[0], results[1])
		}
	})
}

// allOf returns what all calls return, in lists of its own, and writes into what
// they returned.
func allOf(t *testing.T, s store.Store, doors []int, bad int, truth store.Truth, readings []store.Reading, holes []int, bulbs []store.Range, rubbish int) [][]int {
	t.Helper()
	fewest, _ := bestOf(t, s)
	counts, _ := store.Riddle(holes, bulbs)
	crates, _ := store.Pack(holes, bulbs, 3)
	var all [][]int
	for _, l := range [][]int{mustAir(t, s, doors, bad, truth), fewest, cleared(t, s, doors, readings)} {
		all = append(all, slices.Clone(l))
		for n := range l {
			l[n] = rubbish
		}
		_ = append(l, rubbish)
	}
	for _, l := range [][]store.Range{mustLevels(t, s, doors, bad), counts, crates} {
		for n, x := range l {
			all = append(all, []int{x.Lo, x.Hi})
			l[n] = to(rubbish, rubbish)
		}
		_ = append(l, to(rubbish, rubbish))
	}
	return all
}

// P1

// TestAnything has arguments of all kinds: each call ends, and does not panic.
func TestAnything(t *testing.T) {
	r := rand.New(rand.NewSource(9))
	numbers := append(beyond(0, 4), 0, 1, 2, 3, 24, 200, 1000, 100000, 10000000, math.MaxInt-1, math.MinInt+1)
	number := func() int { return numbers[r.Intn(len(numbers))] }
	some := func() store.Range { return to(number(), number()) }
	list := func() []int {
		l := make([]int, r.Intn(5))
		for n := range l {
			l[n] = number()
		}
		return l
	}
	for range 5000 {
		s := store.Store{Hours: number(), Start: some(), Leak: number(), Open: number(), Limit: number(), Times: list()}
		truth := store.Truth{Start: number(), Gas: list()}
		var readings []store.Reading
		var bulbs []store.Range
		for range r.Intn(5) {
			s.Crates = append(s.Crates, store.Crate{From: number(), To: number(), Breath: some(), Gas: some(), Suspect: r.Intn(2) == 0})
			truth.Breath = append(truth.Breath, list())
			readings = append(readings, store.Reading{Hour: number(), Air: some()})
			bulbs = append(bulbs, some())
		}
		for _, s := range []store.Store{s, cellar()} {
			for _, doors := range [][]int{list(), {0, 2}} {
				bad := number()
				store.Air(s, doors, bad, truth)
				store.Air(s, doors, bad, truthOf(number(), list(), list()))
				store.Levels(s, doors, bad)
				store.Safe(s, doors)
				store.Clear(s, doors, readings)
			}
			store.CheckStore(s)
			store.Best(s)
		}
		store.Riddle(list(), bulbs)
		store.Pack(list(), bulbs, number())
	}
}

// TestGreatStores has stores in which as many doors can be tried as there can
// be: each call ends soon.
func TestGreatStores(t *testing.T) {
	s := full()
	for range 20 {
		best(t, "never too much", s)
	}
	s.Limit = 0
	bestFails(t, "always too much", s)
	s = full()
	s.Leak, s.Open, s.Limit = 0, 0, api.MaxAir
	bestFails(t, "too much at the end", s)
	s.Hours, s.Limit, s.Times = 11, 9*11*api.MaxGas+api.MaxGas, s.Times[:9]
	best(t, "just enough at the end", s)
	levels(t, "the most gas", s, nil, 7, countUp(11, 9*api.MaxGas, api.MaxGas)...)
}

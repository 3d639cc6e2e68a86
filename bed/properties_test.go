package bed_test

import (
	"math/rand"
	"slices"
	"testing"

	"bybloem/api"
	"bybloem/bed"
)

func mustRest(t *testing.T, f bed.Farm, plan [][]int) int {
	t.Helper()
	n, e := bed.Rest(f, plan)
	if e != api.OK {
		t.Fatalf("Rest of %v on %v: %v", plan, f, e)
	}
	return n
}

func mustBest(t *testing.T, f bed.Farm) int {
	t.Helper()
	plan, n, e := bed.Best(f)
	if e != api.OK || !bed.ProvePlan(f, plan, n) {
		t.Fatalf("Best of %v: %v, %d, %v", f, plan, n, e)
	}
	return n
}

// years returns for how many years there is a plan with at least the rest.
func years(t *testing.T, f bed.Farm, rest int) int {
	t.Helper()
	y, e := bed.Blocked(f, rest)
	switch {
	case e == api.ErrNone && y == 0:
		return len(f.Needs)
	case e != api.OK || y < 0 || y >= len(f.Needs):
		t.Fatalf("Blocked for %d of %v: %d, %v", rest, f, y, e)
	}
	return y
}

// may returns the possible uses, none if there is no plan with the rest.
func may(t *testing.T, f bed.Farm, rest, year, b int) []int {
	t.Helper()
	l, e := bed.May(f, rest, year, b)
	if rising := slices.IsSorted(l) && len(slices.Compact(slices.Clone(l))) == len(l); !rising || (e == api.OK) != (len(l) > 0) || e != api.OK && e != api.ErrFail {
		t.Fatalf("May for %d, %d and %d of %v: %v, %v", rest, year, b, f, l, e)
	}
	return l
}

// isWithin tells whether each number of a list is in another one.
func isWithin(l, all []int) bool {
	isMissing := func(n int) bool { return !slices.Contains(all, n) }
	return !slices.ContainsFunc(l, isMissing)
}

// P5.6

func TestTheMost(t *testing.T) {
	eachFarm(t, 300, func(r *rand.Rand, f bed.Farm, plan [][]int) {
		most := mustBest(t, f)
		if n := mustRest(t, f, plan); n > most {
			t.Errorf("the plan %v of %v has the rest %d, the best one %d", plan, f, n, most)
		}
		for rest := range api.MaxRest + 1 {
			if blocked := years(t, f, rest) < len(f.Needs); blocked != (rest > most) {
				t.Errorf("%v is blocked for %d: %v, with the most rest %d", f, rest, blocked, most)
			}
		}
		if f = strained(r, f); years(t, f, 0) == len(f.Needs) {
			mustBest(t, f)
		} else {
			askedBest(t, f, api.ErrFail)
		}
	})
}

// P5.7

func TestWhyNot(t *testing.T) {
	var blocked [api.MaxYears]int
	eachFarm(t, 300, func(r *rand.Rand, f bed.Farm, _ [][]int) {
		f = strained(r, f)
		for rest := range api.MaxRest + 1 {
			year := years(t, f, rest)
			if year == len(f.Needs) {
				continue
			}
			blocked[year]++
			if year > 0 {
				before := cut(f, year)
				plan, n, e := bed.Best(before)
				if e != api.OK || n < rest || !bed.ProvePlan(before, plan, rest) || years(t, before, rest) != year {
					t.Errorf("Best of %v, which is blocked for %d in the year behind: %v, %d, %v", before, rest, plan, n, e)
				}
			}
			upTo := cut(f, year+1)
			if _, n, e := bed.Best(upTo); e != api.ErrFail && (e != api.OK || n >= rest) || years(t, upTo, rest) != year {
				t.Errorf("Best of %v, which is blocked for %d in the last year: %d, %v", upTo, rest, n, e)
			}
		}
	})
	if slices.Min(blocked[:]) < 20 {
		t.Errorf("farms are blocked in the years so often: %v", blocked)
	}
}

// P5.8

func TestWhatMayBe(t *testing.T) {
	eachFarm(t, 300, func(r *rand.Rand, f bed.Farm, plan [][]int) {
		best, _, _ := bed.Best(f)
		for _, plan := range [][][]int{plan, best} {
			n := mustRest(t, f, plan)
			for year, uses := range plan {
				b := r.Intn(f.Beds)
				for _, rest := range []int{n, r.Intn(n + 1), 0} {
					if l := may(t, f, rest, year, b); !slices.Contains(l, uses[b]) {
						t.Errorf("May for %d, %d and %d of %v: %v, without %d, with the plan %v", rest, year, b, f, l, uses[b], plan)
					}
				}
			}
		}
	})
}

func TestLessRest(t *testing.T) {
	eachFarm(t, 200, func(r *rand.Rand, f bed.Farm, _ [][]int) {
		year, b, most := r.Intn(len(f.Needs)), r.Intn(f.Beds), mustBest(t, f)
		var more []int
		for rest := api.MaxRest; rest >= 0; rest-- {
			l := may(t, f, rest, year, b)
			if !isWithin(more, l) || (len(l) > 0) != (rest <= most) {
				t.Errorf("May for %d, %d and %d of %v: %v, for one more %v, with the most rest %d", rest, year, b, f, l, more, most)
			}
			more = l
		}
	})
}

// P5.9

// easings are ways to make a farm easier.
func easings(r *rand.Rand, f bed.Farm) []change {
	year, b := r.Intn(len(f.Needs)), r.Intn(f.Beds)
	return []change{
		func(f *bed.Farm) { f.Floods[year] = min(f.Floods[year]+1+r.Intn(2), api.MaxBeds) },
		func(f *bed.Farm) {
			if n := len(f.Apart); n > 0 {
				n = r.Intn(n)
				f.Apart = slices.Delete(f.Apart, n, n+1)
			}
		},
		func(f *bed.Farm) {
			for year, use := range f.Past[b] {
				if use >= 0 && r.Intn(2) == 0 {
					f.Past[b][year] = idle
				}
			}
		},
	}
}

func TestEasier(t *testing.T) {
	var better [3]int
	eachFarm(t, 600, func(r *rand.Rand, f bed.Farm, plan [][]int) {
		n := mustRest(t, f, plan)
		for kind, ease := range easings(r, f) {
			easier := ease.of(f)
			if more := mustRest(t, easier, plan); more < n || !bed.ProvePlan(easier, plan, n) {
				t.Errorf("the plan %v of %v has the rest %d, of %v only %d", plan, f, n, easier, more)
			}
			most, more := mustBest(t, f), mustBest(t, easier)
			if more < most {
				t.Errorf("the most rest of %v is %d, of %v only %d", f, most, easier, more)
			}
			if more > most {
				better[kind]++
			}
			rest, year, b := r.Intn(most+1), r.Intn(len(f.Needs)), r.Intn(f.Beds)
			if l, all := may(t, f, rest, year, b), may(t, easier, rest, year, b); !isWithin(l, all) {
				t.Errorf("May for %d, %d and %d of %v: %v, of %v only %v", rest, year, b, f, l, easier, all)
			}
		}
	})
	if slices.Min(better[:]) < 1 {
		t.Errorf("the most rest grew so often: %v", better)
	}
}

// TestEasierYears has farms that are blocked: in no earlier year, if they are
// easier.
func TestEasierYears(t *testing.T) {
	eachFarm(t, 200, func(r *rand.Rand, f bed.Farm, _ [][]int) {
		f = strained(r, f)
		for _, ease := range easings(r, f) {
			easier, rest := ease.of(f), r.Intn(api.MaxRest+1)
			if n, more := years(t, f, rest), years(t, easier, rest); more < n {
				t.Errorf("for %d there is a plan of %v for %d years, of %v only for %d", rest, f, n, easier, more)
			}
		}
	})
}

// P5.10

// turned is the farm with its beds in the opposite order, and with these numbers
// for its crops.
func turned(f bed.Farm, numbers []int) bed.Farm {
	f = copyFarm(f)
	slices.Reverse(f.Past)
	for _, uses := range f.Past {
		renumber(uses, numbers)
	}
	for n, p := range f.Apart {
		f.Apart[n] = bed.Pair{A: numbers[p.A], B: numbers[p.B]}
	}
	for year, old := range f.Needs {
		f.Needs[year] = make([]int, f.Crops)
		for crop, need := range old {
			f.Needs[year][numbers[crop]] = need
		}
	}
	return f
}

func renumber(uses, numbers []int) {
	for n, use := range uses {
		if use >= 0 {
			uses[n] = numbers[use]
		}
	}
}

func TestTurned(t *testing.T) {
	eachFarm(t, 200, func(r *rand.Rand, f bed.Farm, plan [][]int) {
		numbers := r.Perm(f.Crops)
		other, otherPlan := turned(f, numbers), copyLists(plan)
		for _, uses := range otherPlan {
			slices.Reverse(uses)
			renumber(uses, numbers)
		}
		if a, b := mustRest(t, f, plan), mustRest(t, other, otherPlan); a != b {
			t.Errorf("the plan %v of %v has the rest %d, turned %d", plan, f, a, b)
		}
		most := mustBest(t, f)
		if n := mustBest(t, other); n != most {
			t.Errorf("the most rest of %v is %d, turned %d", f, most, n)
		}
		for rest := range api.MaxRest + 1 {
			if a, b := years(t, f, rest), years(t, other, rest); a != b {
				t.Errorf("for %d there is a plan of %v for %d years, turned for %d", rest, f, a, b)
			}
		}
		rest, year, b := r.Intn(most+1), r.Intn(len(f.Needs)), r.Intn(f.Beds)
		l := may(t, f, rest, year, b)
		want := slices.Clone(l)
		renumber(want, numbers)
		slices.Sort(want)
		if all := may(t, other, rest, year, f.Beds-1-b); !slices.Equal(all, want) {
			t.Errorf("May for %d, %d and %d of %v: %v, turned %v", rest, year, b, f, l, all)
		}
	})
}

// P5.11

func TestFlooded(t *testing.T) {
	eachFarm(t, 200, func(r *rand.Rand, f bed.Farm, plan [][]int) {
		wet, bare := copyFarm(f), copyFarm(f)
		for b, uses := range wet.Past {
			wet.Past[b] = append(uses[:min(len(uses), api.MaxPast-1)], flood)
			bare.Past[b] = nil
		}
		if a, b := mustRest(t, wet, plan), mustRest(t, bare, plan); a != b {
			t.Errorf("the plan %v of %v has the rest %d, without a past %d", plan, wet, a, b)
		}
		if a, b := mustBest(t, wet), mustBest(t, bare); a != b {
			t.Errorf("the most rest of %v is %d, without a past %d", wet, a, b)
		}
		rest, year, b := r.Intn(api.MaxRest+1), r.Intn(len(f.Needs)), r.Intn(f.Beds)
		if a, b := years(t, wet, rest), years(t, bare, rest); a != b {
			t.Errorf("for %d there is a plan of %v for %d years, without a past for %d", rest, wet, a, b)
		}
		if l, all := may(t, wet, rest, year, b), may(t, bare, rest, year, b); !slices.Equal(l, all) {
			t.Errorf("May for %d, %d and %d of %v: %v, without a past %v", rest, year, b, wet, l, all)
		}
	})
}

// P5.12

func TestYears(t *testing.T) {
	less, never := 0, 0
	eachFarm(t, 500, func(r *rand.Rand, f bed.Farm, plan [][]int) {
		f = strained(r, f)
		_, most, e := bed.Best(cut(f, 1))
		for n := 2; n <= len(f.Needs); n++ {
			_, rest, now := bed.Best(cut(f, n))
			switch {
			case now == api.OK && (e != api.OK || rest > most):
				t.Errorf("Best of %v for %d years: %d; for one less %d, %v", f, n, rest, most, e)
			case now == api.OK && rest < most:
				less++
			case now == api.ErrFail && e == api.OK:
				never++
			}
			most, e = rest, now
		}
	})
	if min(less, never) < 20 {
		t.Errorf("with a year more there is less rest %d times, no plan %d times", less, never)
	}
}

// R3

func TestNilAndEmpty(t *testing.T) {
	empty := change(func(f *bed.Farm) { f.Past[2], f.Apart = []int{}, []bed.Pair{} }).of(dune())
	none := change(func(f *bed.Farm) { f.Past[2], f.Apart = nil, nil }).of(dune())
	plan := [][]int{{1, 0, idle}, {0, 1, idle}, {idle, idle, 0}}
	for _, f := range []bed.Farm{empty, none} {
		if e := bed.CheckFarm(f); e != api.OK {
			t.Errorf("CheckFarm of %v: %v", f, e)
		}
		proved(t, "nil or empty", f, plan, 1)
		bestIs(t, "nil or empty", f, api.MaxRest)
		if l := may(t, f, 1, 0, 1); !slices.Equal(l, []int{idle, 0}) {
			t.Errorf("May of %v: %v", f, l)
		}
		askedPlan(t, f, [][]int{}, api.ErrRange)
		askedPlan(t, f, nil, api.ErrRange)
	}
	for _, c := range []change{
		func(f *bed.Farm) { f.Needs = [][]int{} },
		func(f *bed.Farm) { f.Needs[1] = []int{} },
		func(f *bed.Farm) { f.Floods = []int{} },
		func(f *bed.Farm) { f.Past = [][]int{} },
	} {
		if e := bed.CheckFarm(c.of(dune())); e != api.ErrArg {
			t.Errorf("CheckFarm of %v: %v", c.of(dune()), e)
		}
	}
}

// R4

func sameLists(a, b [][]int) bool { return slices.EqualFunc(a, b, slices.Equal) }

func sameFarm(a, b bed.Farm) bool {
	return a.Beds == b.Beds && a.Crops == b.Crops && sameLists(a.Needs, b.Needs) && slices.Equal(a.Floods, b.Floods) &&
		sameLists(a.Past, b.Past) && slices.Equal(a.Apart, b.Apart)
}

// spare has room behind each list, which no call may write into.
func spare(lists [][]int) [][]int {
	var l [][]int
	for _, x := range lists {
		l = append(l, append(make([]int, 0, len(x)+8), x...))
	}
	return l
}

func TestMemory(t *testing.T) {
	eachFarm(t, 100, func(r *rand.Rand, f bed.Farm, plan [][]int) {
		f.Needs, f.Past, plan = spare(f.Needs), spare(f.Past), spare(plan)
		before, planBefore := copyFarm(f), copyLists(plan)
		rest := mustRest(t, f, plan)
		best, most, _ := bed.Best(f)
		year, b := r.Intn(len(f.Needs)), r.Intn(f.Beds)
		blocked, uses := years(t, f, most), may(t, f, most, year, b)
		if !sameFarm(f, before) || !sameLists(plan, planBefore) {
			t.Fatalf("%v became %v, and %v became %v", before, f, planBefore, plan)
		}
		want, wantUses := copyLists(best), slices.Clone(uses)
		for n := range best { // what one list of a result becomes is nothing to the others
			row := slices.Clone(best[n])
			for b := range best[n] {
				best[n][b] = 99
			}
			_ = append(best[n], 99)
			for other := range best {
				if other != n && !slices.Equal(best[other], want[other]) {
					t.Fatalf("lists of the plan %v of %v share memory", want, f)
				}
			}
			copy(best[n], row)
		}
		clear(uses)
		again, mostAgain, _ := bed.Best(f)
		if !sameLists(again, want) || mostAgain != most || !sameFarm(f, before) {
			t.Errorf("Best of %v: %v, and again %v", f, want, again)
		}
		if rest != mustRest(t, f, plan) || blocked != years(t, f, most) || !slices.Equal(wantUses, may(t, f, most, year, b)) {
			t.Errorf("the calls for %v return something else again", f)
		}
	})
}

// TestPairs has pairs in another order, and their crops too: nothing is said of
// an order of them.
func TestPairs(t *testing.T) {
	eachFarm(t, 100, func(r *rand.Rand, f bed.Farm, plan [][]int) {
		other := copyFarm(f)
		slices.Reverse(other.Apart)
		for n, p := range other.Apart {
			other.Apart[n] = bed.Pair{A: p.B, B: p.A}
		}
		if a, b := mustBest(t, f), mustBest(t, other); a != b {
			t.Errorf("the most rest of %v is %d, with other pairs %d", f, a, b)
		}
		rest, year, b := r.Intn(api.MaxRest+1), r.Intn(len(f.Needs)), r.Intn(f.Beds)
		if l, all := may(t, f, rest, year, b), may(t, other, rest, year, b); !slices.Equal(l, all) {
			t.Errorf("May for %d, %d and %d of %v: %v, with other pairs %v", rest, year, b, f, l, all)
		}
	})
}

// P1

// TestAnything has arguments of all kinds: each call ends, and does not panic.
func TestAnything(t *testing.T) {
	r := rand.New(rand.NewSource(6))
	numbers := append(beyond(0, 5), 0, 1, 2, 3, 5, idle, flood)
	number := func() int { return numbers[r.Intn(len(numbers))] }
	list := func() []int {
		l := make([]int, r.Intn(8))
		for n := range l {
			l[n] = number()
		}
		return l
	}
	lists := func() [][]int {
		l := make([][]int, r.Intn(8))
		for n := range l {
			l[n] = list()
		}
		return l
	}
	for range 5000 {
		f := bed.Farm{Beds: number(), Crops: number(), Needs: lists(), Floods: list(), Past: lists()}
		for range r.Intn(3) {
			f.Apart = append(f.Apart, bed.Pair{A: number(), B: number()})
		}
		for _, f := range []bed.Farm{f, dune()} {
			plan, rest := lists(), number()
			bed.Rest(f, plan)
			bed.ProvePlan(f, plan, rest)
			bed.Best(f)
			bed.Blocked(f, rest)
			bed.May(f, rest, number(), number())
		}
	}
}

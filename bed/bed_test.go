package bed_test

import (
	"math"
	"math/rand"
	"slices"
	"testing"

	"bybloem/api"
	"bybloem/bed"
)

const (
	idle  = bed.Idle
	flood = bed.Flood
)

// dune is the farm of the chapter's examples.
func dune() bed.Farm {
	return bed.Farm{
		Beds: 3, Crops: 2,
		Needs:  [][]int{{1, 1}, {1, 1}, {1, 0}},
		Floods: []int{0, 1, 0},
		Past:   [][]int{{0}, {1}, nil},
		Apart:  []bed.Pair{{A: 0, B: 1}},
	}
}

// row is a farm of as many beds, with one year, that needs these beds and may
// flood none.
func row(beds int, needs []int, apart ...bed.Pair) bed.Farm {
	return bed.Farm{Beds: beds, Crops: len(needs), Needs: [][]int{needs}, Floods: []int{0}, Past: make([][]int, beds), Apart: apart}
}

// single is a farm of one bed, which needs just this crop, or none, in each
// year, and can flood the bed where it needs none.
func single(crops int, uses []int, past ...int) bed.Farm {
	f := bed.Farm{Beds: 1, Crops: crops, Past: [][]int{past}}
	for _, use := range uses {
		needs, floods := make([]int, crops), 1
		if use >= 0 {
			needs[use], floods = 1, 0
		}
		f.Needs, f.Floods = append(f.Needs, needs), append(f.Floods, floods)
	}
	return f
}

// dry is the farm if nothing can be flooded.
func dry(f bed.Farm) bed.Farm {
	f = copyFarm(f)
	clear(f.Floods)
	return f
}

// column is a plan of one bed.
func column(uses ...int) [][]int {
	var plan [][]int
	for _, use := range uses {
		plan = append(plan, []int{use})
	}
	return plan
}

// repeated is a list with the same number everywhere.
func repeated(n, times int) []int { return slices.Repeat([]int{n}, times) }

// full has as much of all as a farm can have.
func full() bed.Farm {
	f := bed.Farm{Beds: api.MaxBeds, Crops: api.MaxCrops, Floods: repeated(api.MaxBeds, api.MaxYears)}
	for range api.MaxYears {
		f.Needs = append(f.Needs, repeated(1, api.MaxCrops))
	}
	for range api.MaxBeds {
		f.Past = append(f.Past, []int{0, 1, flood, 2, idle, idle})
	}
	for range api.MaxApart {
		f.Apart = append(f.Apart, bed.Pair{A: 0, B: 2})
	}
	return f
}

// beyond are numbers that are not from low to high.
func beyond(low, high int) []int {
	return []int{low - 1, high + 1, math.MinInt, math.MaxInt}
}

// invalidChanges make the dune no farm.
func invalidChanges() []change {
	l := []change{
		func(f *bed.Farm) { *f = bed.Farm{} },
		func(f *bed.Farm) { f.Beds = 2 },
		func(f *bed.Farm) { f.Beds = 4 },
		func(f *bed.Farm) { f.Beds, f.Past = 0, nil },
		func(f *bed.Farm) { f.Beds, f.Past = 6, make([][]int, 6) },
		func(f *bed.Farm) { *f = row(3, nil) },
		func(f *bed.Farm) { *f = row(3, make([]int, 4)) },
		func(f *bed.Farm) { f.Crops = 1 },
		func(f *bed.Farm) { f.Crops = 3 },
		func(f *bed.Farm) { f.Needs = nil },
		func(f *bed.Farm) { f.Needs, f.Floods = nil, nil },
		func(f *bed.Farm) { f.Needs[0] = nil },
		func(f *bed.Farm) { f.Needs[2] = nil },
		func(f *bed.Farm) { f.Needs[0] = []int{1} },
		func(f *bed.Farm) { f.Needs[2] = []int{1, 0, 0} },
		func(f *bed.Farm) { f.Needs = f.Needs[:2] },
		func(f *bed.Farm) { f.Needs = append(f.Needs, []int{0, 0}) },
		func(f *bed.Farm) { f.Floods = nil },
		func(f *bed.Farm) { f.Floods = f.Floods[:2] },
		func(f *bed.Farm) { f.Floods = append(f.Floods, 0) },
		func(f *bed.Farm) { f.Floods = make([]int, api.MaxYears+1) },
		func(f *bed.Farm) { f.Past = nil },
		func(f *bed.Farm) { f.Past = f.Past[:2] },
		func(f *bed.Farm) { f.Past = append(f.Past, nil) },
		func(f *bed.Farm) { f.Past[0] = make([]int, api.MaxPast+1) },
		func(f *bed.Farm) { f.Past[2] = repeated(idle, api.MaxPast+1) },
		func(f *bed.Farm) { f.Past[2] = repeated(idle, 1000) },
	}
	for _, n := range beyond(1, api.MaxBeds) {
		l = append(l, func(f *bed.Farm) { f.Beds = n })
	}
	for _, n := range beyond(1, api.MaxCrops) {
		l = append(l, func(f *bed.Farm) { f.Crops = n })
	}
	for _, n := range beyond(0, api.MaxBeds) {
		l = append(l,
			func(f *bed.Farm) { f.Needs[0][0] = n },
			func(f *bed.Farm) { f.Needs[2][1] = n },
			func(f *bed.Farm) { f.Floods[0] = n },
			func(f *bed.Farm) { f.Floods[2] = n })
	}
	for _, n := range beyond(flood, 1) {
		l = append(l,
			func(f *bed.Farm) { f.Past[0] = []int{n, 0} },
			func(f *bed.Farm) { f.Past[2] = []int{0, n} })
	}
	for _, n := range append(beyond(0, 1), idle, flood) {
		l = append(l,
			func(f *bed.Farm) { f.Apart[0].A = n },
			func(f *bed.Farm) { f.Apart[0].B = n },
			func(f *bed.Farm) { f.Apart = append(f.Apart, bed.Pair{A: n, B: n}) })
	}
	return l
}

// badFarm is a farm that no call takes, and why.
type badFarm struct {
	f    bed.Farm
	want api.Errno
}

func badFarms() []badFarm {
	var l []badFarm
	for _, c := range invalidChanges() {
		l = append(l, badFarm{c.of(dune()), api.ErrArg})
	}
	years := func(f *bed.Farm) {
		f.Needs, f.Floods = slices.Repeat([][]int{{0, 0}}, api.MaxYears+1), make([]int, api.MaxYears+1)
	}
	pairs := func(f *bed.Farm) { f.Apart = make([]bed.Pair, api.MaxApart+1) }
	// The error that the table asks for first.
	for _, c := range []change{
		years,
		pairs,
		func(f *bed.Farm) { years(f); pairs(f) },
		func(f *bed.Farm) { f.Needs = make([][]int, api.MaxYears+1) },
		func(f *bed.Farm) { f.Needs = make([][]int, 1000) },
		func(f *bed.Farm) { f.Apart = slices.Repeat([]bed.Pair{{A: -1, B: 9}}, api.MaxApart+1) },
		func(f *bed.Farm) { *f = bed.Farm{}; pairs(f) },
		func(f *bed.Farm) { *f = bed.Farm{Needs: make([][]int, api.MaxYears+1)} },
	} {
		l = append(l, badFarm{c.of(dune()), api.ErrLimit})
	}
	return l
}

// failedFarms have no allowed plan, each for another reason, from a year on.
func failedFarms() []struct {
	f    bed.Farm
	year int
} {
	tooMany := change(func(f *bed.Farm) { f.Needs[1] = []int{2, 2} }).of(dune())
	tooMany.Apart = nil
	never := change(func(f *bed.Farm) { f.Needs[2] = []int{2, 1} }).of(dune())
	return []struct {
		f    bed.Farm
		year int
	}{
		{tooMany, 1},
		{never, 2},
		{row(5, []int{5, 5, 5}), 0},
		{row(1, []int{2}), 0},
		{row(2, []int{2}, bed.Pair{}), 0},
		{row(4, []int{3}, bed.Pair{}), 0},
		{row(2, []int{1, 1}, bed.Pair{A: 1, B: 0}), 0},
		{row(3, []int{1, 1, 1}, bed.Pair{A: 0, B: 1}, bed.Pair{A: 2, B: 1}), 0},
	}
}

// P5.1

func TestCheckFarm(t *testing.T) {
	most := row(1, repeated(api.MaxBeds, api.MaxCrops))
	most.Floods[0] = api.MaxBeds
	for _, f := range []bed.Farm{dune(), full(), most, row(1, []int{0}), row(5, []int{5, 5, 5}, bed.Pair{A: 2, B: 2}), single(1, make([]int, 5), make([]int, 6)...)} {
		if e := bed.CheckFarm(f); e != api.OK {
			t.Errorf("CheckFarm of %v: %v", f, e)
		}
	}
	for _, x := range failedFarms() {
		if e := bed.CheckFarm(x.f); e != api.OK {
			t.Errorf("CheckFarm of %v: %v", x.f, e)
		}
	}
	for _, x := range badFarms() {
		if e := bed.CheckFarm(x.f); e != x.want {
			t.Errorf("CheckFarm of %v: %v", x.f, e)
		}
	}
}

// asked holds what the calls return for a farm, a rest, a year and a bed, if
// they have no result.
func asked(t *testing.T, f bed.Farm, rest, year, b int, want api.Errno) {
	t.Helper()
	if y, e := bed.Blocked(f, rest); e != want || y != 0 {
		t.Errorf("Blocked for %d of %v: %d, %v", rest, f, y, e)
	}
	askedMay(t, f, rest, year, b, want)
}

func askedMay(t *testing.T, f bed.Farm, rest, year, b int, want api.Errno) {
	t.Helper()
	if l, e := bed.May(f, rest, year, b); e != want || l != nil {
		t.Errorf("May for %d, %d and %d of %v: %v, %v", rest, year, b, f, l, e)
	}
}

// askedPlan holds that a plan has no rest.
func askedPlan(t *testing.T, f bed.Farm, plan [][]int, want api.Errno) {
	t.Helper()
	if n, e := bed.Rest(f, plan); e != want || n != 0 {
		t.Errorf("Rest of %v on %v: %d, %v", plan, f, n, e)
	}
	for rest := -1; rest <= api.MaxRest; rest++ {
		if bed.ProvePlan(f, plan, rest) {
			t.Errorf("ProvePlan of %v for %d on %v", plan, rest, f)
		}
	}
}

func askedBest(t *testing.T, f bed.Farm, want api.Errno) {
	t.Helper()
	if plan, n, e := bed.Best(f); e != want || n != 0 || plan != nil {
		t.Errorf("Best of %v: %v, %d, %v", f, plan, n, e)
	}
}

func TestRefused(t *testing.T) {
	for _, x := range badFarms() {
		askedBest(t, x.f, x.want)
		for _, plan := range [][][]int{nil, {nil}, {{1, idle, 0}, {0, idle, 1}, {idle, idle, 0}}, make([][]int, len(x.f.Needs)), slices.Repeat([][]int{{idle, idle, idle}}, len(x.f.Needs))} {
			askedPlan(t, x.f, plan, x.want)
		}
		for _, n := range append(beyond(0, 0), 0) {
			asked(t, x.f, n, 0, 0, x.want)
			asked(t, x.f, 0, n, n, x.want)
		}
	}
}

// TestRangeErrors has farms with and without plans: what is asked stands ahead
// of what cannot be.
func TestRangeErrors(t *testing.T) {
	farms := []bed.Farm{dune(), full(), single(1, []int{0, 0}, 0)}
	for _, x := range failedFarms() {
		farms = append(farms, x.f)
	}
	for _, f := range farms {
		for _, rest := range beyond(0, api.MaxRest) {
			asked(t, f, rest, 0, 0, api.ErrRange)
			asked(t, f, rest, -1, -1, api.ErrRange)
		}
		for _, rest := range []int{0, api.MaxRest} {
			for _, year := range beyond(0, len(f.Needs)-1) {
				askedMay(t, f, rest, year, 0, api.ErrRange)
			}
			for _, b := range beyond(0, f.Beds-1) {
				askedMay(t, f, rest, 0, b, api.ErrRange)
			}
		}
	}
}

func TestFailed(t *testing.T) {
	for _, x := range failedFarms() {
		askedBest(t, x.f, api.ErrFail)
		for _, rest := range []int{0, 1, api.MaxRest} {
			for year := range x.f.Needs {
				for b := range x.f.Beds {
					askedMay(t, x.f, rest, year, b, api.ErrFail)
				}
			}
		}
		if y, e := bed.Blocked(x.f, 0); e != api.OK || y != x.year {
			t.Errorf("Blocked of %v: %d, %v, not %d", x.f, y, e, x.year)
		}
	}
}

func TestExamples(t *testing.T) {
	if n, e := bed.Rest(dune(), [][]int{{1, idle, 0}, {1, idle, 0}, {0, idle, idle}}); e != api.OK || n != 0 {
		t.Errorf("Rest: %d, %v", n, e)
	}
	if !bed.ProvePlan(dune(), [][]int{{1, idle, 0}, {0, idle, 1}, {idle, idle, 0}}, 1) {
		t.Error("ProvePlan is false")
	}
	if plan, n, e := bed.Best(dune()); e != api.OK || n != 1 || !bed.ProvePlan(dune(), plan, 1) {
		t.Errorf("Best: %v, %d, %v", plan, n, e)
	}
	if y, e := bed.Blocked(dune(), 1); e != api.ErrNone || y != 0 {
		t.Errorf("Blocked for 1: %d, %v", y, e)
	}
	if y, e := bed.Blocked(dune(), 2); e != api.OK || y != 1 {
		t.Errorf("Blocked for 2: %d, %v", y, e)
	}
	for _, x := range []struct {
		rest, year, bed int
		want            []int
	}{{0, 0, 0, []int{0, 1}}, {1, 0, 0, []int{1}}, {1, 2, 2, []int{idle, 0}}} {
		if l, e := bed.May(dune(), x.rest, x.year, x.bed); e != api.OK || !slices.Equal(l, x.want) {
			t.Errorf("May for %d, %d and %d: %v, %v", x.rest, x.year, x.bed, l, e)
		}
	}
	// The document's example: a crop of two years ago, with one year between.
	f := single(1, []int{0}, 0, idle)
	if n, e := bed.Rest(f, column(0)); e != api.OK || n != 1 {
		t.Errorf("Rest behind an idle year: %d, %v", n, e)
	}
	f.Past[0][1] = flood
	if n, e := bed.Rest(f, column(0)); e != api.OK || n != api.MaxRest {
		t.Errorf("Rest behind a flood: %d, %v", n, e)
	}
}

// TestRest has plans of one bed: the uses that are planned, and the past.
func TestRest(t *testing.T) {
	for _, x := range []struct {
		name       string
		plan, past []int
		want       int
	}{
		{"nothing stands", []int{idle, flood}, []int{0, 0}, 10},
		{"a crop stands once", []int{0}, nil, 10},
		{"year by year", []int{0, 0}, nil, 0},
		{"year by year, from the past", []int{0}, []int{0}, 0},
		{"a year between", []int{0, idle, 0}, nil, 1},
		{"another crop between", []int{0, 1, 0}, nil, 1},
		{"a flood between", []int{0, flood, 0}, nil, 10},
		{"a flood between, in the past", []int{0}, []int{0, flood}, 10},
		{"a flood of the past, not between", []int{0}, []int{flood, 0}, 0},
		{"a flood before", []int{flood, 0, 0}, nil, 0},
		{"a flood behind", []int{0, 0, flood}, nil, 0},
		{"a flood between others", []int{0, flood, 0, 1, 0}, nil, 1},
		{"the flood is at the first year between", []int{0, flood, idle, 0}, nil, 10},
		{"the flood is at the last year between", []int{0, idle, flood, 0}, nil, 10},
		{"a flood for all crops", []int{0, 1, flood, 1, 0}, nil, 10},
		{"the last such year counts", []int{idle, idle, 0}, []int{0, 0}, 2},
		{"the last such year counts", []int{idle, 0}, []int{0, idle, 0}, 1},
		{"the last such year counts", []int{idle, 0}, []int{0, 0, flood}, 10},
		{"the least of two crops", []int{0, 1, 1, idle, 0}, nil, 0},
		{"the least of two crops", []int{0, 1, idle, 0, 1}, nil, 2},
		{"the least of two crops", []int{1, 0, idle, 0, 1}, nil, 1},
		{"three crops in turn", []int{2, 1, 0, 2, 1}, []int{2, 1, 0}, 2},
		{"what comes back in the past does not count", []int{idle}, []int{0, 0}, 10},
		{"what comes back in the past does not count", []int{1, idle, 0}, []int{1, 0, 0}, 2},
		{"across both", []int{idle, 0}, []int{0, idle}, 2},
		{"as long as can be", []int{idle, idle, idle, idle, 0}, []int{0, idle, idle, idle, idle, idle}, 9},
		{"as long as can be", []int{idle, idle, idle, 0, idle}, []int{0, idle, idle, idle, idle, idle}, 8},
		{"as long as can be", []int{idle, idle, idle, idle, 0}, []int{0, idle, idle, idle, flood, idle}, 10},
		{"the past ends before the plan", []int{idle, idle, 0}, []int{0}, 2},
		{"the past ends before the plan", []int{0}, []int{0, idle, idle}, 2},
	} {
		f := single(3, x.plan, x.past...)
		proved(t, x.name, f, column(x.plan...), x.want)
	}
}

// proved holds that a plan has just this rest.
func proved(t *testing.T, name string, f bed.Farm, plan [][]int, want int) {
	t.Helper()
	if n, e := bed.Rest(f, plan); e != api.OK || n != want {
		t.Errorf("%s: Rest of %v on %v: %d, %v, not %d", name, plan, f, n, e, want)
	}
	for rest := range api.MaxRest + 1 {
		if bed.ProvePlan(f, plan, rest) != (rest <= want) {
			t.Errorf("%s: ProvePlan of %v for %d on %v, with the rest %d", name, plan, rest, f, want)
		}
	}
	for _, rest := range beyond(0, api.MaxRest) {
		if bed.ProvePlan(f, plan, rest) {
			t.Errorf("%s: ProvePlan of %v for %d", name, plan, rest)
		}
	}
}

// TestRestOfBeds has plans of which not each bed has the same rest.
func TestRestOfBeds(t *testing.T) {
	f := dune()
	f.Apart = nil
	for _, x := range []struct {
		name string
		plan [][]int
		want int
	}{
		{"the first bed", [][]int{{0, idle, 1}, {1, idle, 0}, {idle, 0, idle}}, 0},
		{"the second bed", [][]int{{idle, 1, 0}, {0, idle, 1}, {idle, 0, idle}}, 0},
		{"the third bed", [][]int{{1, 0, idle}, {idle, 1, 0}, {idle, idle, 0}}, 0},
		{"the first year", [][]int{{0, 1, idle}, {1, 0, idle}, {idle, idle, 0}}, 0},
		{"each bed", [][]int{{1, 0, idle}, {0, 1, idle}, {idle, idle, 0}}, 1},
		{"a bed that is flooded", [][]int{{1, 0, idle}, {flood, 1, 0}, {0, idle, idle}}, 1},
		{"another bed is flooded", [][]int{{1, idle, 0}, {0, flood, 1}, {0, idle, idle}}, 0},
		{"to another bed", [][]int{{1, 0, idle}, {idle, 1, 0}, {idle, 0, idle}}, 1},
	} {
		proved(t, x.name, f, x.plan, x.want)
	}
}

// TestAllowed has farms of one year, and whether the plan is allowed on them.
func TestAllowed(t *testing.T) {
	flooded := row(4, []int{1})
	flooded.Floods[0] = 2
	for _, x := range []struct {
		name string
		f    bed.Farm
		plan []int
		want bool
	}{
		{"all that is needed", row(3, []int{1, 2}), []int{1, 0, 1}, true},
		{"more beds", row(4, []int{1, 2}), []int{1, 0, idle, 1}, true},
		{"too few of a crop", row(3, []int{1, 2}), []int{1, 0, idle}, false},
		{"too many of a crop", row(4, []int{1, 2}), []int{1, 0, 1, 1}, false},
		{"one for the other", row(3, []int{1, 2}), []int{1, 0, 0}, false},
		{"none is needed", row(2, []int{0}), []int{idle, idle}, true},
		{"none is needed, and one stands", row(2, []int{0}), []int{idle, 0}, false},
		{"fewer beds are flooded", flooded, []int{idle, 0, flood, idle}, true},
		{"as many are", flooded, []int{flood, 0, flood, idle}, true},
		{"too many are", flooded, []int{flood, 0, flood, flood}, false},
		{"one is, where none can be", row(1, []int{0}), []int{flood}, false},
		{"two side by side", row(3, []int{1, 1}, bed.Pair{A: 0, B: 1}), []int{0, 1, idle}, false},
		{"two side by side", row(3, []int{1, 1}, bed.Pair{A: 0, B: 1}), []int{idle, 1, 0}, false},
		{"two side by side", row(3, []int{1, 1}, bed.Pair{A: 1, B: 0}), []int{idle, 0, 1}, false},
		{"two side by side", row(3, []int{1, 1}, bed.Pair{A: 1, B: 0}), []int{1, 0, idle}, false},
		{"one between", row(3, []int{1, 1}, bed.Pair{A: 1, B: 0}), []int{1, idle, 0}, true},
		{"another crop between", row(3, []int{1, 1, 1}, bed.Pair{A: 1, B: 0}), []int{1, 2, 0}, true},
		{"the ends of the row", row(3, []int{1, 1}, bed.Pair{A: 1, B: 0}), []int{1, idle, 0}, true},
		{"of two pairs", row(3, []int{1, 1, 1}, bed.Pair{A: 1, B: 1}, bed.Pair{A: 2, B: 0}), []int{0, 2, 1}, false},
		{"of two pairs", row(3, []int{1, 1, 1}, bed.Pair{A: 1, B: 1}, bed.Pair{A: 2, B: 0}), []int{0, 1, 2}, true},
		{"the same crop", row(3, []int{2}, bed.Pair{}), []int{0, 0, idle}, false},
		{"the same crop", row(3, []int{2}, bed.Pair{}), []int{0, idle, 0}, true},
		{"the same crop of another pair", row(3, []int{1, 2}, bed.Pair{}), []int{0, 1, 1}, true},
		{"the same crop of a pair of two", row(3, []int{1, 2}, bed.Pair{A: 0, B: 1}), []int{1, 1, idle}, false},
		{"the same crop of a pair of two", row(4, []int{1, 2}, bed.Pair{A: 0, B: 1}), []int{1, 1, idle, 0}, true},
		{"a pair twice", row(3, []int{1, 1}, bed.Pair{A: 1}, bed.Pair{A: 1}), []int{1, idle, 0}, true},
		{"the last of six pairs", row(3, []int{0, 0, 2}, append(make([]bed.Pair, 5), bed.Pair{A: 2, B: 2})...), []int{idle, 2, 2}, false},
		{"the last of five beds", row(5, []int{1, 1}, bed.Pair{A: 0, B: 1}), []int{idle, idle, idle, 1, 0}, false},
	} {
		if plan := [][]int{x.plan}; x.want {
			proved(t, x.name, x.f, plan, api.MaxRest)
		} else {
			askedPlan(t, x.f, plan, api.ErrFail)
		}
	}
}

// TestAllowedYears has a plan that is wrong in one year.
func TestAllowedYears(t *testing.T) {
	plan := func() [][]int { return [][]int{{1, idle, 0}, {0, idle, 1}, {idle, idle, 0}} }
	proved(t, "the plan", dune(), plan(), 1)
	for year, floods := range dune().Floods {
		wet, wrong := plan(), plan()
		wet[year][1] = flood
		if floods > 0 {
			proved(t, "a flood", dune(), wet, 1)
		} else {
			askedPlan(t, dune(), wet, api.ErrFail)
		}
		wrong[year][2] = idle
		askedPlan(t, dune(), wrong, api.ErrFail)
	}
}

func TestNoPlans(t *testing.T) {
	good := [][]int{{1, idle, 0}, {0, idle, 1}, {idle, idle, 0}}
	bad := [][]int{{1, 0, idle}, {0, idle, 1}, {idle, idle, 0}} // not allowed, too
	for _, plan := range [][][]int{good, bad} {
		for _, x := range []struct {
			name string
			plan [][]int
		}{
			{"nothing", nil},
			{"no years", [][]int{}},
			{"a year less", plan[:2]},
			{"a year more", slices.Concat(plan, good[:1])},
			{"a year more, without beds", slices.Concat(plan, [][]int{nil})},
			{"many years", slices.Repeat(plan, 1000)},
			{"no beds", [][]int{nil, nil, nil}},
			{"no beds in the last year", [][]int{plan[0], plan[1], {}}},
			{"a bed less", [][]int{plan[0], plan[1], {0, idle}}},
			{"a bed more", [][]int{plan[0], plan[1], {0, idle, idle, idle}}},
		} {
			askedPlan(t, dune(), x.plan, api.ErrRange)
		}
		for _, use := range beyond(flood, 1) {
			for _, b := range []int{0, 2} {
				wrong := copyLists(plan)
				wrong[2][b] = use
				askedPlan(t, dune(), wrong, api.ErrRange)
			}
		}
	}
	for _, x := range failedFarms() {
		askedPlan(t, x.f, nil, api.ErrRange)
		askedPlan(t, x.f, slices.Repeat([][]int{repeated(idle, x.f.Beds)}, len(x.f.Needs)), api.ErrFail)
	}
}

// bestIs holds the calls that search against the most rest.
func bestIs(t *testing.T, name string, f bed.Farm, want int) {
	t.Helper()
	plan, n, e := bed.Best(f)
	if e != api.OK || n != want || !bed.ProvePlan(f, plan, want) {
		t.Errorf("%s: Best of %v: %v, %d, %v, not %d", name, f, plan, n, e, want)
	}
	if n, e := bed.Rest(f, plan); e != api.OK || n != want {
		t.Errorf("%s: Rest of the best plan %v of %v: %d, %v, not %d", name, plan, f, n, e, want)
	}
	for rest := range api.MaxRest + 1 {
		y, e := bed.Blocked(f, rest)
		if rest <= want && (e != api.ErrNone || y != 0) || rest > want && e != api.OK {
			t.Errorf("%s: Blocked for %d of %v: %d, %v, with the most rest %d", name, rest, f, y, e, want)
		}
	}
}

// turns needs a crop each year on one of as many beds, and can flood none.
func turns(beds, years int) bed.Farm {
	f := bed.Farm{Beds: beds, Crops: 1, Needs: slices.Repeat([][]int{{1}}, years), Floods: make([]int, years), Past: make([][]int, beds)}
	f.Needs = copyLists(f.Needs)
	return f
}

// crowded needs three crops each year on five beds, and one of them on all beds
// in the last year, behind a year in which it stands on one: of all plans none
// has any rest.
func crowded() bed.Farm {
	f := full()
	f.Past, f.Apart = make([][]int, f.Beds), nil
	f.Needs[4], f.Floods = []int{5, 0, 0}, repeated(1, api.MaxYears)
	return f
}

// P5.3

func TestBest(t *testing.T) {
	bestIs(t, "the example", dune(), 1)
	bestIs(t, "the example without its pair", change(func(f *bed.Farm) { f.Apart = nil }).of(dune()), api.MaxRest)
	for beds := 1; beds <= 4; beds++ {
		bestIs(t, "beds in turn", turns(beds, api.MaxYears), beds-1)
		bestIs(t, "as many beds as years", turns(beds, beds), api.MaxRest)
	}
	bestIs(t, "as many beds as years", turns(5, 5), api.MaxRest)
	wet := turns(2, 5)
	wet.Floods = repeated(1, 5)
	bestIs(t, "a flood each year", wet, api.MaxRest)
	wet.Floods[2] = 0
	bestIs(t, "a year without flood", wet, 1)
	wet.Floods[2], wet.Floods[0], wet.Floods[4] = 1, 0, 0
	bestIs(t, "no flood in the first and the last year", wet, api.MaxRest)
	bestIs(t, "a crop on all beds", crowded(), 0)
	// On each bed the crop 2 stood three years before the plan.
	bestIs(t, "all that can be", full(), 2)
	for ago := 1; ago <= api.MaxPast; ago++ {
		for year := range api.MaxYears {
			uses := repeated(idle, year+1)
			uses[year] = 0
			f := dry(single(1, uses, append([]int{0}, repeated(idle, ago-1)...)...))
			bestIs(t, "one bed", f, ago+year-1)
		}
	}
	bestIs(t, "nothing is needed", single(2, repeated(idle, 5), 0, 1), api.MaxRest)
	bestIs(t, "more than can be flooded", single(1, []int{0, idle, 0}), api.MaxRest)
	bestIs(t, "none can be flooded", dry(single(1, []int{0, idle, 0})), 1)
}

// P5.4

func TestBlocked(t *testing.T) {
	longer := change(func(f *bed.Farm) { f.Needs[0], f.Needs[1] = []int{0, 0}, []int{0, 0} }).of(dune())
	longer.Needs[2] = []int{2, 2}
	for _, x := range []struct {
		name       string
		f          bed.Farm
		rest, want int
	}{
		{"the example", dune(), 2, 1},
		{"the example", dune(), 10, 1},
		{"the first year", single(1, []int{0}, 0), 1, 0},
		{"the first year, for a greater rest", single(1, []int{0}, 0, idle), 2, 0},
		{"the last year", single(1, []int{0, idle, idle, idle, 0}), 10, 5},
		{"the last year", dry(single(1, []int{0, idle, idle, idle, 0})), 4, 4},
		{"the last year", dry(single(1, []int{0, idle, idle, idle, 0})), 3, 5},
		{"beds in turn", turns(3, 5), 2, 5},
		{"beds in turn", turns(3, 5), 3, 3},
		{"beds in turn", turns(4, 5), 10, 4},
		{"beds in turn", turns(1, 5), 1, 1},
		{"too many in the last year", longer, 0, 2},
		{"too many in the last year", longer, 10, 2},
		{"a crop on all beds", crowded(), 0, 5},
		{"a crop on all beds", crowded(), 1, 4},
		{"a crop on all beds", crowded(), 3, 4},
		{"a crop on all beds", crowded(), 10, 4},
	} {
		y, e := bed.Blocked(x.f, x.rest)
		if x.want == len(x.f.Needs) {
			if y != 0 || e != api.ErrNone {
				t.Errorf("%s: Blocked for %d of %v: %d, %v", x.name, x.rest, x.f, y, e)
			}
		} else if y != x.want || e != api.OK {
			t.Errorf("%s: Blocked for %d of %v: %d, %v, not %d", x.name, x.rest, x.f, y, e, x.want)
		}
	}
}

// P5.5

func TestMay(t *testing.T) {
	wide := row(3, []int{1, 1, 0})
	wide.Floods[0] = 1
	paired := row(3, []int{1, 1}, bed.Pair{A: 1, B: 0})
	for _, x := range []struct {
		name            string
		f               bed.Farm
		rest, year, bed int
		want            []int
		e               api.Errno
	}{
		{"all uses but a crop that is not needed", wide, 0, 0, 1, []int{flood, idle, 0, 1}, api.OK},
		{"no flood", paired, 0, 0, 0, []int{0, 1}, api.OK},
		{"between crops of a pair", paired, 0, 0, 1, []int{idle}, api.OK},
		{"a crop of the past", single(1, []int{0}, 0), 0, 0, 0, []int{0}, api.OK},
		{"a crop of the past, too soon", single(1, []int{0}, 0), 1, 0, 0, nil, api.ErrFail},
		{"a flood that is not needed", single(1, []int{0, idle, 0}), 1, 1, 0, []int{flood, idle}, api.OK},
		{"a flood that is needed", single(1, []int{0, idle, 0}), 2, 1, 0, []int{flood}, api.OK},
		{"years before a use", turns(2, 2), 1, 0, 0, []int{idle, 0}, api.OK},
		{"years behind a use", change(func(f *bed.Farm) { f.Past[1] = []int{0, idle} }).of(turns(2, 2)), 2, 0, 0, []int{0}, api.OK},
		{"years behind a use", change(func(f *bed.Farm) { f.Past[1] = []int{0} }).of(turns(2, 2)), 2, 0, 0, nil, api.ErrFail},
		{"years behind a use", change(func(f *bed.Farm) { f.Past[1] = []int{0, idle} }).of(turns(2, 3)), 1, 0, 0, []int{idle, 0}, api.OK},
		{"years behind a use", change(func(f *bed.Farm) { f.Past[1] = []int{0} }).of(turns(2, 3)), 1, 0, 0, []int{0}, api.OK},
		{"years behind a use", change(func(f *bed.Farm) { f.Past[1] = []int{0} }).of(turns(2, 3)), 1, 1, 0, []int{idle}, api.OK},
		{"the last year and bed", full(), 2, 4, 4, []int{flood, idle, 0, 1, 2}, api.OK},
		{"the example", dune(), 0, 0, 1, []int{idle}, api.OK},
		{"the example", dune(), 1, 1, 1, []int{flood, idle}, api.OK},
		{"the example", dune(), 2, 0, 0, nil, api.ErrFail},
	} {
		if l, e := bed.May(x.f, x.rest, x.year, x.bed); e != x.e || !slices.Equal(l, x.want) {
			t.Errorf("%s: May for %d, %d and %d of %v: %v, %v, not %v", x.name, x.rest, x.year, x.bed, x.f, l, e, x.want)
		}
	}
}

// P5.1 to P5.5

// TestModel holds the calls that search against the model.
func TestModel(t *testing.T) {
	eachSmall(t, 1500, func(f bed.Farm, o *outcome) {
		if most, found := o.best(f); found {
			bestIs(t, "the model", f, most)
		} else {
			askedBest(t, f, api.ErrFail)
		}
		for rest, years := range o.years {
			modelYears(t, f, rest, years)
			for year := range f.Needs {
				for b := range f.Beds {
					modelMay(t, f, rest, year, b, o.possible(f, rest, year, b))
				}
			}
		}
	})
}

// modelYears holds Blocked against the model.
func modelYears(t *testing.T, f bed.Farm, rest, years int) {
	t.Helper()
	want := api.OK
	if years == len(f.Needs) {
		years, want = 0, api.ErrNone
	}
	if y, e := bed.Blocked(f, rest); y != years || e != want {
		t.Errorf("Blocked for %d of %v: %d, %v, not %d", rest, f, y, e, years)
	}
}

func modelMay(t *testing.T, f bed.Farm, rest, year, b int, uses []int) {
	t.Helper()
	if len(uses) == 0 {
		askedMay(t, f, rest, year, b, api.ErrFail)
		return
	}
	if l, e := bed.May(f, rest, year, b); e != api.OK || !slices.Equal(l, uses) {
		t.Errorf("May for %d, %d and %d of %v: %v, %v, not %v", rest, year, b, f, l, e, uses)
	}
}

// TestModelYears holds Blocked against the model for great farms, of which it
// need not look at too many plans.
func TestModelYears(t *testing.T) {
	r := rand.New(rand.NewSource(7))
	full, blocked := 0, 0
	for range 400 {
		f, _ := randomFarm(r, great)
		if r.Intn(2) == 0 {
			f = strained(r, f)
		}
		rest := r.Intn(5)
		years, done := modelSearch(f, rest, 20000)
		if !done {
			continue
		}
		if modelYears(t, f, rest, years); years == len(f.Needs) {
			full++
		} else {
			blocked++
		}
	}
	if min(full, blocked) < 50 {
		t.Errorf("%d great farms are looked at that are not blocked, %d that are", full, blocked)
	}
}

// TestModelPlans holds what is said of plans against the model, for plans of
// random farms in which some uses were changed.
func TestModelPlans(t *testing.T) {
	allowed, forbidden := 0, 0
	eachFarm(t, 4000, func(r *rand.Rand, f bed.Farm, plan [][]int) {
		plan = copyLists(plan)
		for range r.Intn(3) {
			uses := plan[r.Intn(len(plan))]
			a, b := r.Intn(f.Beds), r.Intn(f.Beds)
			uses[a], uses[b] = uses[b], uses[a]
			if r.Intn(4) == 0 {
				uses[a] = r.Intn(f.Crops+2) - 2
			}
		}
		for year, uses := range plan {
			if !modelAllows(f, year, uses) {
				askedPlan(t, f, plan, api.ErrFail)
				forbidden++
				return
			}
		}
		proved(t, "the model", f, plan, modelRest(f, plan))
		allowed++
	})
	if min(allowed, forbidden) < 500 {
		t.Errorf("%d plans are allowed, %d are not", allowed, forbidden)
	}
}

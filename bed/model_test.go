package bed_test

import (
	"math/rand"
	"slices"
	"testing"

	"bybloem/api"
	"bybloem/bed"
)

// The model looks at every plan of a small farm, and asks of all of them what
// the chapter asks. Random farms, always the same ones, are done by both. Great
// farms, of which this would take too long, come with one plan.

// modelUses returns all uses of a bed, rising.
func modelUses(f bed.Farm) []int {
	l := []int{bed.Flood, bed.Idle}
	for crop := range f.Crops {
		l = append(l, crop)
	}
	return l
}

// modelBeds counts the beds with a use.
func modelBeds(uses []int, use int) int {
	n := 0
	for _, u := range uses {
		if u == use {
			n++
		}
	}
	return n
}

// modelClashes tells whether two beds side by side have the crops of a pair.
func modelClashes(p bed.Pair, uses []int) bool {
	for n := 0; n+1 < len(uses); n++ {
		a, b := uses[n], uses[n+1]
		if a == p.A && b == p.B || a == p.B && b == p.A {
			return true
		}
	}
	return false
}

func modelAllows(f bed.Farm, year int, uses []int) bool {
	for crop, need := range f.Needs[year] {
		if modelBeds(uses, crop) != need {
			return false
		}
	}
	for _, p := range f.Apart {
		if modelClashes(p, uses) {
			return false
		}
	}
	return modelBeds(uses, bed.Flood) <= f.Floods[year]
}

// modelRows returns all uses of the beds in a year that are allowed.
func modelRows(f bed.Farm, year int) [][]int {
	rows := [][]int{nil}
	for range f.Beds {
		var longer [][]int
		for _, row := range rows {
			for _, use := range modelUses(f) {
				longer = append(longer, slices.Concat(row, []int{use}))
			}
		}
		rows = longer
	}
	isForbidden := func(uses []int) bool { return !modelAllows(f, year, uses) }
	return slices.DeleteFunc(rows, isForbidden)
}

// modelBack returns the rest of the crop that comes back with the last of the
// uses of a bed, and whether one does.
func modelBack(uses []int) (rest int, comes bool) {
	last := len(uses) - 1
	if uses[last] < 0 {
		return 0, false
	}
	for before := last - 1; before >= 0 && uses[before] != bed.Flood; before-- {
		if uses[before] == uses[last] {
			return last - before - 1, true
		}
	}
	return 0, false
}

// modelRest is the rest of a plan, which may be one for fewer years.
func modelRest(f bed.Farm, plan [][]int) int {
	least := api.MaxRest
	for n := range f.Beds {
		uses := slices.Clone(f.Past[n])
		for _, row := range plan {
			uses = append(uses, row[n])
			if rest, comes := modelBack(uses); comes && rest < least {
				least = rest
			}
		}
	}
	return least
}

// outcome is what the model knows of a farm, for each rest: for how many years
// there is a plan, and the uses that are possible, by years and beds.
type outcome struct {
	years [api.MaxRest + 1]int
	may   [api.MaxRest + 1][api.MaxYears][api.MaxBeds]map[int]bool
}

// modelOutcome looks at all allowed plans, also at those for the first years.
func modelOutcome(f bed.Farm) *outcome {
	o := new(outcome)
	var rows [][][]int
	for year := range f.Needs {
		rows = append(rows, modelRows(f, year))
	}
	var plan [][]int
	var extend func()
	extend = func() {
		rest := modelRest(f, plan)
		for n := range rest + 1 {
			o.years[n] = max(o.years[n], len(plan))
		}
		if len(plan) == len(f.Needs) {
			o.add(rest, plan)
			return
		}
		for _, uses := range rows[len(plan)] {
			plan = append(plan, uses)
			extend()
			plan = plan[:len(plan)-1]
		}
	}
	extend()
	return o
}

func (o *outcome) add(rest int, plan [][]int) {
	for n := range rest + 1 {
		for year, uses := range plan {
			for b, use := range uses {
				if o.may[n][year][b] == nil {
					o.may[n][year][b] = map[int]bool{}
				}
				o.may[n][year][b][use] = true
			}
		}
	}
}

// best returns the most rest, and whether there is an allowed plan at all.
func (o *outcome) best(f bed.Farm) (rest int, found bool) {
	for rest := api.MaxRest; rest >= 0; rest-- {
		if o.years[rest] == len(f.Needs) {
			return rest, true
		}
	}
	return 0, false
}

func (o *outcome) possible(f bed.Farm, rest, year, b int) []int {
	var l []int
	for _, use := range modelUses(f) {
		if o.may[rest][year][b][use] {
			l = append(l, use)
		}
	}
	return l
}

// modelSearch returns for how many years there is a plan with at least the rest,
// and whether it was found out in so many steps.
func modelSearch(f bed.Farm, rest, steps int) (years int, done bool) {
	var rows [][][]int
	for year := range f.Needs {
		rows = append(rows, modelRows(f, year))
	}
	var plan [][]int
	var extend func() bool
	extend = func() bool {
		years = max(years, len(plan))
		if len(plan) == len(rows) {
			return true
		}
		for _, uses := range rows[len(plan)] {
			if steps--; steps < 0 {
				return true
			}
			plan = append(plan, uses)
			if modelRest(f, plan) >= rest && extend() {
				return true
			}
			plan = plan[:len(plan)-1]
		}
		return false
	}
	extend()
	return years, steps >= 0
}

func copyLists(lists [][]int) [][]int {
	var l [][]int
	for _, x := range lists {
		l = append(l, slices.Clone(x))
	}
	return l
}

// copyFarm copies all lists of a farm.
func copyFarm(f bed.Farm) bed.Farm {
	f.Needs, f.Floods = copyLists(f.Needs), slices.Clone(f.Floods)
	f.Past, f.Apart = copyLists(f.Past), slices.Clone(f.Apart)
	return f
}

// change is what makes a farm another one.
type change func(f *bed.Farm)

func (c change) of(f bed.Farm) bed.Farm {
	f = copyFarm(f)
	c(&f)
	return f
}

// cut is the farm with its first years alone.
func cut(f bed.Farm, years int) bed.Farm {
	f = copyFarm(f)
	f.Needs, f.Floods = f.Needs[:years], f.Floods[:years]
	return f
}

// shape is how great a random farm is at most.
type shape struct{ beds, crops, years int }

// small are shapes of which each plan can be looked at.
var small = []shape{{1, 3, 5}, {2, 1, 5}, {2, 2, 4}, {2, 3, 3}, {3, 2, 3}, {3, 1, 4}, {4, 2, 2}, {5, 3, 1}}

var great = shape{api.MaxBeds, api.MaxCrops, api.MaxYears}

// randomUses are uses of a bed in some years, in which few crops come back with
// less than the rest.
func randomUses(r *rand.Rand, f bed.Farm, years, rest int) []int {
	var l []int
	flood, idle := r.Intn(4), r.Intn(6)
	for range years {
		use := r.Intn(f.Crops)
		switch n := r.Intn(12); {
		case n < flood:
			use = bed.Flood
		case n < flood+idle:
			use = bed.Idle
		}
		if back, comes := modelBack(append(l, use)); comes && back < rest && r.Intn(20) > 0 {
			use = bed.Idle
		}
		l = append(l, use)
	}
	return l
}

// randomFarm is a farm with one of its allowed plans.
func randomFarm(r *rand.Rand, s shape) (f bed.Farm, plan [][]int) {
	f.Beds, f.Crops = 1+r.Intn(s.beds), 1+r.Intn(s.crops)
	years, rest := max(1+r.Intn(s.years), 1+r.Intn(s.years)), r.Intn(7)
	plan = make([][]int, years)
	for range f.Beds {
		past := r.Intn(api.MaxPast + 1)
		uses := randomUses(r, f, past+years, rest)
		f.Past = append(f.Past, uses[:past:past])
		for year, use := range uses[past:] {
			plan[year] = append(plan[year], use)
		}
	}
	f = withNeeds(r, f, plan)
	for range r.Intn(api.MaxApart + 1) {
		p := bed.Pair{A: r.Intn(f.Crops), B: r.Intn(f.Crops)}
		clashes := func(uses []int) bool { return modelClashes(p, uses) }
		if !slices.ContainsFunc(plan, clashes) {
			f.Apart = append(f.Apart, p)
		}
	}
	return f, plan
}

// withNeeds is the farm that needs what the plan has, and can flood as many
// beds, and sometimes more.
func withNeeds(r *rand.Rand, f bed.Farm, plan [][]int) bed.Farm {
	for _, uses := range plan {
		var needs []int
		for crop := range f.Crops {
			needs = append(needs, modelBeds(uses, crop))
		}
		floods := modelBeds(uses, bed.Flood)
		f.Needs = append(f.Needs, needs)
		f.Floods = append(f.Floods, min(api.MaxBeds, floods+max(0, r.Intn(4)-2)))
	}
	return f
}

// strained is a farm that needs more, or can do less, so that it may be blocked.
func strained(r *rand.Rand, f bed.Farm) bed.Farm {
	f = copyFarm(f)
	year := r.Intn(len(f.Needs))
	switch r.Intn(3) {
	case 0:
		f.Needs[year][r.Intn(f.Crops)]++
	case 1:
		f.Floods[year] = 0
	default:
		if len(f.Apart) < api.MaxApart {
			f.Apart = append(f.Apart, bed.Pair{A: r.Intn(f.Crops), B: r.Intn(f.Crops)})
		}
	}
	for _, needs := range f.Needs {
		for crop := range needs {
			needs[crop] = min(needs[crop], api.MaxBeds)
		}
	}
	return f
}

// eachSmall calls a test with random farms of which some have no allowed plan.
func eachSmall(t *testing.T, n int, test func(f bed.Farm, o *outcome)) {
	t.Helper()
	r := rand.New(rand.NewSource(4))
	for i := range n {
		f, _ := randomFarm(r, small[i%len(small)])
		if r.Intn(2) == 0 {
			f = strained(r, f)
		}
		test(f, modelOutcome(f))
		if t.Failed() {
			return
		}
	}
}

// eachFarm calls a test with random farms, small and great ones, and an allowed
// plan of each.
func eachFarm(t *testing.T, n int, test func(r *rand.Rand, f bed.Farm, plan [][]int)) {
	t.Helper()
	r := rand.New(rand.NewSource(5))
	for i := range n {
		s := great
		if i%2 == 0 {
			s = small[i/2%len(small)]
		}
		f, plan := randomFarm(r, s)
		test(r, f, plan)
		if t.Failed() {
			return
		}
	}
}

// TestRandomFarms asks whether the random farms have what the other tests are
// about at all.
func TestRandomFarms(t *testing.T) {
	var rests [api.MaxRest + 1]int
	var blocked [api.MaxYears]int
	var never, unlike, pasts int
	eachSmall(t, 2000, func(f bed.Farm, o *outcome) {
		most, found := o.best(f)
		if !found {
			never++
			blocked[o.years[0]]++
			return
		}
		rests[most]++
		if most < api.MaxRest {
			blocked[o.years[most+1]]++
		}
		for b := range f.Beds {
			if !slices.Equal(o.possible(f, 0, 0, b), o.possible(f, most, 0, b)) {
				unlike++
			}
		}
		bare := copyFarm(f)
		bare.Past = make([][]int, f.Beds)
		if rest, _ := modelOutcome(bare).best(bare); rest != most {
			pasts++
		}
	})
	for rest, n := range rests {
		// Crops that come back after more than 6 years are left to the tables.
		if least := [...]int{100, 100, 50, 40, 30, 15, 10, 0, 0, 0, 100}[rest]; n < least {
			t.Errorf("%d farms have the most rest %d", n, rest)
		}
	}
	for year, n := range blocked {
		if n < 10 {
			t.Errorf("%d farms are blocked in the year %d", n, year)
		}
	}
	if min(never, unlike, pasts) < 100 {
		t.Errorf("%d farms have no plan, %d beds fewer uses for more rest, %d farms less rest by their past", never, unlike, pasts)
	}
}

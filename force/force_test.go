package force_test

import (
	"math"
	"math/rand"
	"slices"
	"testing"

	"bybloem/api"
	"bybloem/force"
)

func to(low, high int) force.Range { return force.Range{Lo: low, Hi: high} }

func b(temp, days int) force.Block { return force.Block{Temp: temp, Days: days} }

func stay(in, out int) force.Stay { return force.Stay{In: in, Out: out} }

func has(r force.Range, n int) bool { return r.Lo <= n && n <= r.Hi }

func sizeOf(form, chill, grow force.Range) force.Size {
	return force.Size{Needs: [3]force.Range{form, chill, grow}}
}

// tulips is the lot of the chapter's examples.
func tulips() force.Lot {
	return force.Lot{
		Prices: []int{2, 1, 5},
		Points: [3][]int{{2, 0, 1}, {0, 3, 1}, {1, 0, 4}},
		Sizes:  []force.Size{sizeOf(to(4, 6), to(6, 6), to(8, 12)), sizeOf(to(6, 8), to(6, 9), to(4, 8))},
	}
}

// usual is the program of the chapter's examples.
func usual() []force.Block { return []force.Block{b(0, 4), b(1, 3), b(2, 4)} }

// plain has as many points in each phase, on a day at each temperature, and a
// bulb of which all is known.
func plain(points []int, form, chill, grow int) force.Lot {
	l := force.Lot{
		Prices: make([]int, len(points)),
		Sizes:  []force.Size{sizeOf(to(form, form), to(chill, chill), to(grow, grow))},
	}
	for phase := range l.Points {
		l.Points[phase] = slices.Clone(points)
	}
	return l
}

// full has as much of all as a lot can have.
func full() force.Lot {
	l := plain(slices.Repeat([]int{api.MaxPoints}, api.MaxTemps), api.MaxNeed, api.MaxNeed, api.MaxNeed)
	l.Prices = slices.Repeat([]int{api.MaxHeating}, api.MaxTemps)
	l.Sizes = slices.Repeat(l.Sizes, api.MaxGrades)
	return l
}

// cloned is a lot of which all can be changed.
func cloned(l force.Lot) force.Lot {
	l.Prices, l.Sizes = slices.Clone(l.Prices), slices.Clone(l.Sizes)
	for phase := range l.Points {
		l.Points[phase] = slices.Clone(l.Points[phase])
	}
	return l
}

// change is what makes a lot another one.
type change func(l *force.Lot)

func (c change) of(l force.Lot) force.Lot {
	l = cloned(l)
	c(&l)
	return l
}

// beyond are numbers that are not from low to high.
func beyond(low, high int) []int {
	return []int{low - 1, high + 1, math.MinInt, math.MaxInt}
}

// badRanges are no ranges with ends from the least to the most.
func badRanges(least, most int) []force.Range {
	l := []force.Range{to(least+1, least), to(most, most-1), to(math.MinInt, math.MaxInt), to(math.MaxInt, math.MinInt)}
	for _, n := range beyond(least, most) {
		l = append(l, to(n, n), to(n, most), to(least, n))
	}
	return l
}

// badLot is a lot that no call takes, and why.
type badLot struct {
	l    force.Lot
	want api.Errno
}

// invalidChanges make the tulips no lot.
func invalidChanges() []change {
	l := []change{
		func(l *force.Lot) { *l = force.Lot{} },
		func(l *force.Lot) { l.Prices = nil },
		func(l *force.Lot) { l.Prices, l.Points = nil, [3][]int{} },
		func(l *force.Lot) { l.Sizes = nil },
		func(l *force.Lot) { l.Prices = l.Prices[:2] },
		func(l *force.Lot) { l.Prices = append(l.Prices, 1) },
		func(l *force.Lot) { l.Sizes[1] = force.Size{} },
		func(l *force.Lot) { l.Points = [3][]int{} },
	}
	for temp := range 3 {
		for _, n := range beyond(0, api.MaxHeating) {
			l = append(l, func(l *force.Lot) { l.Prices[temp] = n })
		}
	}
	for phase := range 3 {
		l = append(l,
			func(l *force.Lot) { l.Points[phase] = nil },
			func(l *force.Lot) { l.Points[phase] = l.Points[phase][:2] },
			func(l *force.Lot) { l.Points[phase] = append(l.Points[phase], 0) },
			func(l *force.Lot) { l.Points[phase] = make([]int, 1000) })
		for temp := range 3 {
			for _, n := range beyond(0, api.MaxPoints) {
				l = append(l, func(l *force.Lot) { l.Points[phase][temp] = n })
			}
		}
		for size := range 2 {
			for _, r := range badRanges(1, api.MaxNeed) {
				l = append(l, func(l *force.Lot) { l.Sizes[size].Needs[phase] = r })
			}
		}
	}
	return l
}

func badLots() []badLot {
	var l []badLot
	for _, c := range invalidChanges() {
		l = append(l, badLot{c.of(tulips()), api.ErrArg})
	}
	prices := func(l *force.Lot) { l.Prices = make([]int, api.MaxTemps+1) }
	sizes := func(l *force.Lot) { l.Sizes = slices.Repeat(l.Sizes[:1], api.MaxGrades+1) }
	// The error that the table asks for first.
	for _, c := range []change{
		prices,
		sizes,
		func(l *force.Lot) { prices(l); sizes(l) },
		func(l *force.Lot) { prices(l); l.Sizes = nil },
		func(l *force.Lot) { sizes(l); l.Prices = nil },
		func(l *force.Lot) { sizes(l); l.Points[1][1] = -1 },
		func(l *force.Lot) { l.Sizes = make([]force.Size, 1000) },
		func(l *force.Lot) {
			*l = plain([]int{1, 1, 1, 1, 1}, 1, 1, 1)
		},
	} {
		l = append(l, badLot{c.of(tulips()), api.ErrLimit})
	}
	return l
}

// badPrograms are no programs of the tulips.
func badPrograms() map[api.Errno][][]force.Block {
	bad := map[api.Errno][][]force.Block{
		api.ErrLimit: {
			make([]force.Block, api.MaxBlocks+1),
			slices.Repeat([]force.Block{b(0, 1)}, api.MaxBlocks+1),
			{b(0, 10), b(1, 10), b(0, 10), b(1, 11)},
			make([]force.Block, 1000),
		},
		api.ErrArg: {
			nil,
			{},
			{b(0, 20), b(1, 21)},
			{b(0, 39), b(1, 1), b(2, 1)},
			{b(0, 40), b(1, 40), b(2, 40)},
			{b(0, math.MaxInt), b(1, math.MaxInt), b(2, 3)}, // the sum of which wraps to 1
			{b(0, math.MinInt), b(1, math.MinInt), b(2, 9)},
			{b(0, 5), b(1, -4)},
			{b(0, 41), b(1, -2), b(0, 1)},
		},
	}
	for n := range usual() {
		for _, temp := range beyond(0, 2) {
			program := usual()
			program[n].Temp = temp
			bad[api.ErrArg] = append(bad[api.ErrArg], program)
		}
		for _, days := range append(beyond(1, api.MaxForcing), -3, 34) {
			program := usual()
			program[n].Days = days
			bad[api.ErrArg] = append(bad[api.ErrArg], program)
		}
	}
	return bad
}

// badDates are no dates.
func badDates() []force.Range { return badRanges(0, api.MaxForcing-1) }

// The calls that have no result.

func askedCost(t *testing.T, l force.Lot, program []force.Block, want api.Errno) {
	t.Helper()
	if n, e := force.Cost(l, program); e != want || n != 0 {
		t.Errorf("Cost of %v, %v: %d, %v, not %v", l, program, n, e, want)
	}
}

func askedFlower(t *testing.T, l force.Lot, program []force.Block, size int, n needs, want api.Errno) {
	t.Helper()
	if day, e := force.Flower(l, program, size, n); e != want || day != 0 {
		t.Errorf("Flower of %v, %v, the size %d that needs %v: %d, %v, not %v", l, program, size, n, day, e, want)
	}
}

func askedDays(t *testing.T, l force.Lot, program []force.Block, want api.Errno) {
	t.Helper()
	if d, e := force.Days(l, program); e != want || d != nil {
		t.Errorf("Days of %v, %v: %v, %v, not %v", l, program, d, e, want)
	}
}

func askedMeets(t *testing.T, l force.Lot, program []force.Block, date force.Range, want api.Errno) {
	t.Helper()
	if is, e := force.Meets(l, program, date); e != want || is {
		t.Errorf("Meets of %v, %v, for %v: %v, %v, not %v", l, program, date, is, e, want)
	}
}

func askedBest(t *testing.T, l force.Lot, days int, date force.Range, want api.Errno) {
	t.Helper()
	if program, cost, e := force.Best(l, days, date); e != want || program != nil || cost != 0 {
		t.Errorf("Best of %v, %d days, for %v: %v, %d, %v, not %v", l, days, date, program, cost, e, want)
	}
}

func askedBeds(t *testing.T, l []force.Stay, want api.Errno) {
	t.Helper()
	if beds, day, e := force.Beds(l); e != want || beds != nil || day != 0 {
		t.Errorf("Beds of %v: %v, %d, %v, not %v", l, beds, day, e, want)
	}
}

// The calls that have one.

func costs(t *testing.T, l force.Lot, program []force.Block, want int) {
	t.Helper()
	if n, e := force.Cost(l, program); e != api.OK || n != want {
		t.Errorf("Cost of %v, %v: %d, %v, not %d", l, program, n, e, want)
	}
}

func flowers(t *testing.T, l force.Lot, program []force.Block, size int, n needs, want int) {
	t.Helper()
	if day, e := force.Flower(l, program, size, n); e != api.OK || day != want {
		t.Errorf("Flower of %v, %v, the size %d that needs %v: %d, %v, not %d", l, program, size, n, day, e, want)
	}
}

func days(t *testing.T, l force.Lot, program []force.Block, want ...force.Range) {
	t.Helper()
	if d, e := force.Days(l, program); e != api.OK || !slices.Equal(d, want) {
		t.Errorf("Days of %v, %v: %v, %v, not %v", l, program, d, e, want)
	}
}

func meets(t *testing.T, l force.Lot, program []force.Block, date force.Range, want bool) {
	t.Helper()
	if is, e := force.Meets(l, program, date); e != api.OK || is != want {
		t.Errorf("Meets of %v, %v, for %v: %v, %v, not %v", l, program, date, is, e, want)
	}
}

func best(t *testing.T, l force.Lot, days int, date force.Range, cost int, want ...force.Block) {
	t.Helper()
	if program, n, e := force.Best(l, days, date); e != api.OK || n != cost || !slices.Equal(program, want) {
		t.Errorf("Best of %v, %d days, for %v: %v, %d, %v, not %v, %d", l, days, date, program, n, e, want, cost)
	}
}

// fewest asks for beds for stays, and holds them against the chapter.
func fewest(t *testing.T, l []force.Stay, want int) (beds []int, day int) {
	t.Helper()
	beds, day, e := force.Beds(l)
	if e != api.OK || !modelProves(l, beds, day) || len(l) > 0 && slices.Max(beds)+1 != want {
		t.Errorf("Beds of %v: %v, %d, %v, not %d of them", l, beds, day, e, want)
	}
	proves(t, l, beds, day, true)
	return beds, day
}

func proves(t *testing.T, l []force.Stay, beds []int, day int, want bool) {
	t.Helper()
	if force.ProveBeds(l, beds, day) != want {
		t.Errorf("ProveBeds of %v, %v, %d is not %v", l, beds, day, want)
	}
}

// P8.1

func TestCheckLot(t *testing.T) {
	for _, c := range []change{
		func(l *force.Lot) {},
		func(l *force.Lot) { *l = full() },
		func(l *force.Lot) { *l = plain([]int{0}, 1, 1, 1) },
		func(l *force.Lot) { l.Prices = []int{0, api.MaxHeating, 0} },
		func(l *force.Lot) { l.Points[2] = []int{api.MaxPoints, 0, api.MaxPoints} },
		func(l *force.Lot) { l.Sizes = l.Sizes[:1] },
		func(l *force.Lot) { l.Sizes = slices.Repeat(l.Sizes, 2) },
		func(l *force.Lot) { l.Sizes[1] = sizeOf(to(1, 1), to(1, api.MaxNeed), to(api.MaxNeed, api.MaxNeed)) },
	} {
		if l := c.of(tulips()); force.CheckLot(l) != api.OK {
			t.Errorf("CheckLot of %v: %v", l, force.CheckLot(l))
		}
	}
	for _, x := range badLots() {
		if e := force.CheckLot(x.l); e != x.want {
			t.Errorf("CheckLot of %v: %v, not %v", x.l, e, x.want)
		}
	}
}

// TestRefusedLots has lots that no call takes, whatever is asked of them.
func TestRefusedLots(t *testing.T) {
	for _, x := range badLots() {
		for _, program := range [][]force.Block{usual(), nil, make([]force.Block, api.MaxBlocks+1), {b(9, 9)}} {
			askedCost(t, x.l, program, x.want)
			askedDays(t, x.l, program, x.want)
			askedFlower(t, x.l, program, 0, needs{4, 6, 8}, x.want)
			askedFlower(t, x.l, program, 9, needs{}, x.want)
			askedMeets(t, x.l, program, to(7, 9), x.want)
			askedMeets(t, x.l, program, to(9, 7), x.want)
		}
		askedBest(t, x.l, 10, to(7, 9), x.want)
		askedBest(t, x.l, 0, to(7, 9), x.want)
		askedBest(t, x.l, 10, to(9, 7), x.want)
		askedBest(t, x.l, 10, to(8, 9), x.want)
	}
}

// TestRefusedPrograms has programs that stand ahead of all but the lot.
func TestRefusedPrograms(t *testing.T) {
	for want, programs := range badPrograms() {
		for _, program := range programs {
			askedCost(t, tulips(), program, want)
			askedDays(t, tulips(), program, want)
			askedFlower(t, tulips(), program, 0, needs{4, 6, 8}, want)
			askedFlower(t, tulips(), program, 9, needs{}, want)
			askedMeets(t, tulips(), program, to(7, 9), want)
			askedMeets(t, tulips(), program, to(9, 7), want)
		}
	}
	askedCost(t, plain([]int{1}, 1, 1, 1), []force.Block{b(1, 1)}, api.ErrArg)
}

// TestRefusedBulbs has needs that no bulb of the size has.
func TestRefusedBulbs(t *testing.T) {
	l := tulips()
	for _, size := range beyond(0, 1) {
		askedFlower(t, l, usual(), size, needs{6, 6, 8}, api.ErrRange)
	}
	for size, s := range l.Sizes {
		for phase, r := range s.Needs {
			for _, n := range append(beyond(r.Lo, r.Hi), 0) {
				other := leastOf(s)
				other[phase] = n
				askedFlower(t, l, usual(), size, other, api.ErrRange)
			}
		}
	}
	askedFlower(t, l, usual(), 1, needs{4, 6, 8}, api.ErrRange) // which is one of the other size
	askedFlower(t, l, usual(), 0, needs{}, api.ErrRange)
}

func TestCost(t *testing.T) {
	costs(t, tulips(), usual(), 31)
	costs(t, tulips(), []force.Block{b(1, 1)}, 1)
	costs(t, tulips(), []force.Block{b(2, 40)}, 200)
	costs(t, tulips(), []force.Block{b(2, 1), b(2, 2)}, 15)
	costs(t, tulips(), []force.Block{b(0, 38), b(1, 1), b(2, 1)}, 82)
	costs(t, plain([]int{0}, 1, 1, 1), []force.Block{b(0, 40)}, 0)
	costs(t, full(), []force.Block{b(3, 13), b(0, 14), b(3, 13)}, 40*api.MaxHeating)
}

func TestFlower(t *testing.T) {
	flowers(t, tulips(), usual(), 0, needs{4, 6, 8}, 8)
	flowers(t, tulips(), usual(), 0, needs{6, 6, 12}, 9)
	for _, x := range []struct {
		name    string
		points  []int
		program []force.Block
		n       needs
		want    int
	}{
		{"a day for each phase", []int{1}, []force.Block{b(0, 3)}, needs{1, 1, 1}, 2},
		{"a day too few", []int{1}, []force.Block{b(0, 2)}, needs{1, 1, 1}, never},
		{"as many as it needs", []int{2}, []force.Block{b(0, 9)}, needs{4, 2, 6}, 5},
		{"more than it needs, which the next phase has not", []int{2}, []force.Block{b(0, 9)}, needs{3, 1, 5}, 5},
		{"far more than it needs", []int{100}, []force.Block{b(0, 40)}, needs{1, 1, 1}, 2},
		{"the last day", []int{2}, []force.Block{b(0, 6)}, needs{4, 2, 6}, 5},
		{"ends before", []int{2}, []force.Block{b(0, 5)}, needs{4, 2, 6}, never},
		{"no points", []int{0}, []force.Block{b(0, 40)}, needs{1, 1, 1}, never},
		{"days without points between", []int{3, 0}, []force.Block{b(0, 1), b(1, 3), b(0, 2)}, needs{5, 1, 1}, never},
		{"days without points between", []int{3, 0}, []force.Block{b(0, 1), b(1, 3), b(0, 3)}, needs{5, 1, 1}, 6},
		{"a phase across blocks", []int{3, 1}, []force.Block{b(1, 2), b(0, 1), b(1, 9)}, needs{3, 3, 3}, 8},
		{"a day longer", []int{1}, []force.Block{b(0, 40)}, needs{13, 13, 14}, 39},
		{"the 41st day", []int{1}, []force.Block{b(0, 40)}, needs{13, 14, 14}, never},
		{"the most", []int{100}, []force.Block{b(0, 40)}, needs{2000, 1900, 100}, 39},
		{"the most", []int{100}, []force.Block{b(0, 40)}, needs{2000, 2000, 2000}, never},
	} {
		l := plain(x.points, x.n[0], x.n[1], x.n[2])
		flowers(t, l, x.program, 0, x.n, x.want)
		days(t, l, x.program, to(x.want, x.want))
		if t.Failed() {
			t.Fatal(x.name)
		}
	}
	// The points of each phase are its own.
	l := plain([]int{0, 0, 0}, 2, 2, 2)
	l.Points[0][2], l.Points[1][0], l.Points[2][1] = 1, 1, 1
	flowers(t, l, []force.Block{b(2, 2), b(0, 2), b(1, 2)}, 0, needs{2, 2, 2}, 5)
	flowers(t, l, []force.Block{b(2, 9), b(0, 9), b(1, 9)}, 0, needs{2, 2, 2}, 19)
	flowers(t, l, []force.Block{b(0, 9), b(2, 9), b(1, 9)}, 0, needs{2, 2, 2}, never)
	flowers(t, l, []force.Block{b(2, 9), b(1, 9), b(0, 9)}, 0, needs{2, 2, 2}, never)
}

// P8.2

func TestDays(t *testing.T) {
	l := tulips()
	days(t, l, usual(), to(8, 9), to(7, 8))
	days(t, l, []force.Block{b(0, 4), b(1, 3), b(2, 3)}, to(8, 9), to(7, 8))
	days(t, l, []force.Block{b(0, 4), b(1, 3), b(2, 2)}, to(8, never), to(7, 8))
	days(t, l, []force.Block{b(0, 4), b(1, 3), b(2, 1)}, to(never, never), to(7, never))
	days(t, l, []force.Block{b(0, 4), b(1, 3)}, to(never, never), to(never, never))
	days(t, l, []force.Block{b(1, 40)}, to(never, never), to(never, never))
	l.Sizes = l.Sizes[:1]
	days(t, l, usual(), to(8, 9))
	l.Sizes = slices.Repeat(tulips().Sizes, 2)
	days(t, l, usual(), to(8, 9), to(7, 8), to(8, 9), to(7, 8))
	days(t, full(), []force.Block{b(0, 40)}, slices.Repeat([]force.Range{to(never, never)}, api.MaxGrades)...)
	first := plain([]int{9}, 1, 1, 1)
	first.Sizes[0].Needs[2] = to(1, api.MaxNeed)
	days(t, first, []force.Block{b(0, 3)}, to(2, never))
	days(t, first, []force.Block{b(0, 40)}, to(2, never))
	first.Sizes[0].Needs[2] = to(9, 9*38)
	days(t, first, []force.Block{b(0, 40)}, to(2, 39))
}

// P8.3

func TestMeets(t *testing.T) {
	for _, x := range []struct {
		date force.Range
		want bool
	}{
		{to(7, 9), true}, {to(7, 8), false}, {to(8, 9), false}, {to(0, 9), true}, {to(7, 39), true}, {to(0, 39), true},
		{to(7, 7), false}, {to(8, 8), false}, {to(9, 9), false}, {to(0, 6), false}, {to(10, 39), false}, {to(0, 0), false}, {to(39, 39), false},
	} {
		meets(t, tulips(), usual(), x.date, x.want)
	}
	// The last day of the size 0 is not reached, and then none is.
	for _, days := range []int{2, 1} {
		program := []force.Block{b(0, 4), b(1, 3), b(2, days)}
		for _, date := range []force.Range{to(0, 39), to(7, 8), to(7, 9), to(0, 0)} {
			meets(t, tulips(), program, date, false)
		}
	}
	// Only one of the sizes does not.
	for n := range api.MaxGrades {
		l := plain([]int{1}, 1, 1, 1)
		l.Sizes = slices.Repeat(l.Sizes, api.MaxGrades)
		meets(t, l, []force.Block{b(0, 5)}, to(2, 2), true)
		l.Sizes[n].Needs[1].Hi = 2
		meets(t, l, []force.Block{b(0, 5)}, to(2, 2), false)
		meets(t, l, []force.Block{b(0, 5)}, to(2, 3), true)
		meets(t, l, []force.Block{b(0, 3)}, to(2, 3), false)
		meets(t, l, []force.Block{b(0, 5)}, to(3, 4), false)
	}
	meets(t, plain([]int{1}, 13, 13, 14), []force.Block{b(0, 40)}, to(39, 39), true)
	meets(t, plain([]int{1}, 13, 14, 14), []force.Block{b(0, 40)}, to(0, 39), false)
}

func TestRefusedDates(t *testing.T) {
	for _, date := range badDates() {
		askedMeets(t, tulips(), usual(), date, api.ErrRange)
		askedBest(t, tulips(), 10, date, api.ErrRange)
		askedBest(t, tulips(), 1, date, api.ErrRange) // for which there is no program
		askedBest(t, tulips(), 0, date, api.ErrRange)
	}
	for _, days := range append(beyond(1, api.MaxForcing), -9) {
		askedBest(t, tulips(), days, to(7, 9), api.ErrRange)
		askedBest(t, tulips(), days, to(0, 0), api.ErrRange)
	}
}

func TestBest(t *testing.T) {
	l := tulips()
	best(t, l, 10, to(7, 9), 26, b(0, 4), b(1, 3), b(2, 3))
	best(t, l, 11, to(7, 9), 31, usual()...)
	askedBest(t, l, 10, to(8, 9), api.ErrFail)
	askedBest(t, l, 9, to(7, 9), api.ErrFail)
	askedBest(t, l, 1, to(0, 39), api.ErrFail)
	askedBest(t, l, 40, to(0, 0), api.ErrFail)
	for days := 1; days <= api.MaxForcing; days++ {
		one := plain([]int{1}, 1, 1, 1)
		one.Prices[0] = 7
		if days < 3 {
			askedBest(t, one, days, to(0, 39), api.ErrFail)
			continue
		}
		best(t, one, days, to(2, 2), 7*days, b(0, days))
		askedBest(t, one, days, to(0, 1), api.ErrFail)
		askedBest(t, one, days, to(3, 39), api.ErrFail)
	}
}

// phased has a temperature for each phase, and a last one for all of them.
func phased(prices ...int) force.Lot {
	l := plain([]int{0, 0, 0, 1}, 1, 2, 1)
	for phase := range l.Points {
		l.Points[phase][phase] = 1
	}
	l.Prices = prices
	return l
}

// TestBestOfSeveral has programs of which more than one costs least.
func TestBestOfSeveral(t *testing.T) {
	best(t, phased(0, 0, 0, 0), 4, to(3, 3), 0, b(3, 4)) // the fewest blocks
	best(t, phased(1, 1, 1, 1), 9, to(3, 3), 9, b(3, 9))
	best(t, phased(0, 0, 0, 1), 4, to(3, 3), 0, b(0, 1), b(1, 2), b(2, 1)) // less money for more blocks
	best(t, phased(0, 0, 0, 1), 5, to(3, 3), 0, b(0, 1), b(1, 2), b(2, 2))
	best(t, phased(1, 0, 0, 1), 5, to(3, 3), 1, b(0, 1), b(1, 2), b(2, 2)) // 0, 1 and 2 ahead of 3, 1 and 2
	best(t, phased(0, 1, 1, 1), 4, to(3, 3), 3, b(0, 1), b(3, 3))
	best(t, phased(1, 1, 0, 1), 4, to(3, 3), 3, b(3, 3), b(2, 1))
	best(t, phased(1, 1, 0, 1), 5, to(3, 3), 3, b(3, 3), b(2, 2))
	best(t, phased(2, 2, 2, 1), 5, to(3, 3), 5, b(3, 5))
	// The lesser temperature first, and then the fewer days.
	same := plain([]int{1, 1, 1}, 1, 1, 1)
	best(t, same, 4, to(2, 2), 0, b(0, 4))
	same.Prices = []int{1, 0, 0}
	best(t, same, 4, to(2, 2), 0, b(1, 4))
	one := plain([]int{1, 0}, 1, 1, 1)
	one.Prices = []int{1, 1}
	best(t, one, 6, to(3, 3), 6, b(1, 1), b(0, 5))
	best(t, one, 6, to(3, 5), 6, b(1, 1), b(0, 5))
	best(t, one, 6, to(4, 5), 6, b(1, 2), b(0, 4))
	best(t, one, 6, to(2, 5), 6, b(0, 6))
	one.Prices = []int{1, 0}
	best(t, one, 6, to(2, 5), 3, b(0, 3), b(1, 3))
	best(t, one, 6, to(3, 5), 3, b(1, 3), b(0, 3))
	best(t, one, 6, to(3, 4), 3, b(1, 1), b(0, 3), b(1, 2))
	best(t, one, 6, to(4, 4), 3, b(1, 2), b(0, 3), b(1, 1))
	best(t, one, 7, to(4, 5), 3, b(1, 2), b(0, 3), b(1, 2))
	one.Prices = []int{0, 1}
	best(t, one, 6, to(2, 5), 0, b(0, 6))
	best(t, one, 6, to(4, 5), 2, b(1, 2), b(0, 4))
}

// P8.4

func TestBeds(t *testing.T) {
	for _, x := range []struct {
		name string
		l    []force.Stay
		want int
	}{
		{"the example", []force.Stay{stay(0, 3), stay(2, 5), stay(4, 6), stay(6, 8), stay(3, 3)}, 3},
		{"one", []force.Stay{stay(7, 9)}, 1},
		{"one day", []force.Stay{stay(0, 0)}, 1},
		{"the last day", []force.Stay{stay(39, 39)}, 1},
		{"all days", []force.Stay{stay(0, 39)}, 1},
		{"one behind the other", []force.Stay{stay(0, 1), stay(2, 3), stay(4, 5)}, 1},
		{"one ahead of the other", []force.Stay{stay(4, 5), stay(2, 3), stay(0, 1)}, 1},
		{"a day in common", []force.Stay{stay(0, 2), stay(2, 4)}, 2},
		{"the same", []force.Stay{stay(5, 5), stay(5, 5), stay(5, 5)}, 3},
		{"one in the other", []force.Stay{stay(3, 4), stay(0, 9)}, 2},
		{"two in one", []force.Stay{stay(1, 4), stay(5, 8), stay(0, 9)}, 2},
		{"each with the next", []force.Stay{stay(0, 2), stay(2, 4), stay(4, 6), stay(6, 8), stay(8, 10)}, 2},
		{"as many as can be", slices.Repeat([]force.Stay{stay(0, 39)}, api.MaxStays), api.MaxStays},
		{"as many as can be, behind each other", singles(api.MaxStays), 1},
		{"stairs", []force.Stay{stay(0, 3), stay(1, 4), stay(2, 5), stay(3, 6), stay(4, 7), stay(5, 8)}, 4},
		// The first free bed for each one as it stands in the list would be 3.
		{"a bad order", []force.Stay{stay(0, 1), stay(4, 5), stay(1, 3), stay(2, 4)}, 2},
	} {
		fewest(t, x.l, x.want)
		if t.Failed() {
			t.Fatal(x.name)
		}
	}
	beds, day := fewest(t, nil, 0)
	if len(beds) != 0 || day != -1 {
		t.Errorf("Beds of nothing: %v, %d", beds, day)
	}
}

// singles are so many stays of one day each.
func singles(many int) []force.Stay {
	var l []force.Stay
	for n := range many {
		l = append(l, stay(n, n))
	}
	return l
}

func TestRefusedStays(t *testing.T) {
	many := slices.Repeat([]force.Stay{stay(0, 0)}, api.MaxStays+1)
	refuse := func(l []force.Stay, want api.Errno) {
		askedBeds(t, l, want)
		beds := make([]int, len(l))
		for n := range beds {
			beds[n] = n
		}
		for day := -1; day <= api.MaxForcing; day++ {
			proves(t, l, beds, day, false)
			proves(t, l, make([]int, len(l)), day, false)
		}
	}
	refuse(many, api.ErrLimit)
	refuse(singles(api.MaxStays+1), api.ErrLimit)
	refuse(slices.Repeat([]force.Stay{stay(2, 1)}, api.MaxStays+1), api.ErrLimit)
	refuse(make([]force.Stay, 1000), api.ErrLimit)
	for _, r := range badRanges(0, api.MaxForcing-1) {
		refuse([]force.Stay{stay(r.Lo, r.Hi)}, api.ErrArg)
		refuse([]force.Stay{stay(0, 39), stay(r.Lo, r.Hi)}, api.ErrArg)
		refuse([]force.Stay{stay(r.Lo, r.Hi), stay(0, 39)}, api.ErrArg)
	}
}

func TestProveBeds(t *testing.T) {
	glass := []force.Stay{stay(0, 3), stay(2, 5), stay(4, 6), stay(6, 8), stay(3, 3)}
	for _, x := range []struct {
		name string
		beds []int
		day  int
		want bool
	}{
		{"the example", []int{0, 1, 0, 1, 2}, 3, true},
		{"other numbers", []int{2, 0, 2, 0, 1}, 3, true},
		{"other beds", []int{0, 1, 2, 1, 2}, 3, true},
		{"a day with fewer", []int{0, 1, 0, 1, 2}, 2, false},
		{"the day behind", []int{0, 1, 0, 1, 2}, 4, false},
		{"no day", []int{0, 1, 0, 1, 2}, -1, false},
		{"no day at all", []int{0, 1, 0, 1, 2}, math.MaxInt, false},
		{"a bed more", []int{0, 1, 2, 0, 3}, 3, false},
		{"a bed for each", []int{0, 1, 2, 3, 4}, 3, false},
		{"a day in common at the end", []int{0, 1, 0, 0, 2}, 3, false},
		{"days in common", []int{0, 1, 1, 0, 2}, 3, false},
		{"the same bed for one within", []int{0, 1, 0, 1, 0}, 2, false},
		{"a number left out", []int{0, 1, 0, 1, 3}, 3, false},
		{"0 left out", []int{1, 2, 1, 2, 3}, 3, false},
		{"below 0", []int{0, 1, 0, 1, -1}, 3, false},
		{"below 0, and without 2", []int{-1, 0, -1, 0, 1}, 3, false},
		{"the greatest number of all", []int{0, 1, 0, 1, math.MaxInt}, 3, false},
		{"the least number of all", []int{0, 1, 0, 1, math.MinInt}, 3, false},
		{"too few", []int{0, 1, 0, 1}, 3, false},
		{"too many", []int{0, 1, 0, 1, 2, 0}, 3, false},
		{"none", nil, 3, false},
		{"none, and no day", nil, -1, false},
	} {
		proves(t, glass, x.beds, x.day, x.want)
		if t.Failed() {
			t.Fatal(x.name)
		}
	}
	proves(t, nil, nil, -1, true)
	proves(t, []force.Stay{}, []int{}, -1, true)
	proves(t, nil, []int{0}, -1, false)
	for _, day := range []int{0, 1, -2, 39, 40, math.MinInt, math.MaxInt} {
		proves(t, nil, nil, day, false)
	}
	for day := -1; day <= 41; day++ { // each day on which all of them stand
		proves(t, []force.Stay{stay(2, 5), stay(4, 9)}, []int{1, 0}, day, day == 4 || day == 5)
		proves(t, []force.Stay{stay(0, 39)}, []int{0}, day, 0 <= day && day < 40)
	}
	proves(t, []force.Stay{stay(1, 1)}, []int{math.MaxInt}, 1, false)
	proves(t, []force.Stay{stay(1, 1)}, []int{1}, 1, false)
	proves(t, []force.Stay{stay(1, 1)}, []int{-1}, 1, false)
	proves(t, []force.Stay{stay(1, 1)}, []int{-1}, 2, false)
	proves(t, singles(2), []int{0, 1}, 0, false)
	proves(t, singles(2), []int{0, 0}, 1, true)
	proves(t, singles(2), []int{0, 0}, 2, false)
}

// P8.1 to P8.4

// TestModel holds the calls against the model.
func TestModel(t *testing.T) {
	eachLot(t, 500, small, func(r *rand.Rand, l force.Lot, most int, date force.Range) {
		for range 8 {
			program := randomBlocks(r, len(l.Prices), 1+r.Intn(most))
			costs(t, l, program, modelCost(l, program))
			days(t, l, program, modelDays(l, program)...)
			meets(t, l, program, date, modelMeets(l, program, date))
			for n, s := range l.Sizes {
				for _, x := range modelBulbs(s) {
					flowers(t, l, program, n, x, modelFlower(l, program, x))
				}
			}
		}
		if program := modelBest(l, most, date); program != nil {
			best(t, l, most, date, modelCost(l, program), program...)
		} else {
			askedBest(t, l, most, date, api.ErrFail)
		}
	})
}

// TestModelGreat holds those calls that do not look at all bulbs against the
// model.
func TestModelGreat(t *testing.T) {
	eachLot(t, 600, allShapes(), func(r *rand.Rand, l force.Lot, most int, _ force.Range) {
		program := randomBlocks(r, len(l.Prices), most)
		costs(t, l, program, modelCost(l, program))
		for n, s := range l.Sizes {
			x := randomNeeds(r, s)
			flowers(t, l, program, n, x, modelFlower(l, program, x))
		}
	})
}

// TestModelBeds holds the beds for a few stays against the model.
func TestModelBeds(t *testing.T) {
	r := rand.New(rand.NewSource(10))
	for range 1500 {
		l := randomStays(r, 6, 9)
		fewest(t, l, modelFewest(l))
		if t.Failed() {
			return
		}
	}
}

// TestModelProofs asks of all beds for a few stays, and of all days, whether they
// show it.
func TestModelProofs(t *testing.T) {
	r := rand.New(rand.NewSource(11))
	shown := 0
	for range 150 {
		l := randomStays(r, 4, 6)
		modelAllBeds(len(l), -1, len(l), func(beds []int) bool {
			for day := -2; day < 8; day++ {
				is := modelProves(l, beds, day)
				proves(t, l, beds, day, is)
				if is {
					shown++
				}
			}
			return t.Failed()
		})
		if t.Failed() {
			return
		}
	}
	if shown < 500 {
		t.Errorf("%d times it is shown", shown)
	}
}

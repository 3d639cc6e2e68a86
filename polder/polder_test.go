package polder_test

import (
	"math"
	"math/rand"
	"slices"
	"testing"

	"bybloem/api"
	"bybloem/polder"
)

func to(low, high int) polder.Range { return polder.Range{Lo: low, Hi: high} }

func has(r polder.Range, n int) bool { return r.Lo <= n && n <= r.Hi }

// meadow is the polder of the chapter's examples.
func meadow() polder.Polder {
	return polder.Polder{
		Low: 10, High: 20, Start: to(14, 16), Pump: 6, Inlet: 2,
		Days: []polder.Day{
			{Rain: to(0, 8), Seep: 2, Out: 3, In: 1},
			{Rain: to(2, 6), Seep: 1, Out: 5, In: 1},
			{Rain: to(0, 4), Seep: 4, Out: 1, In: 4},
		},
	}
}

// meadowTable is its table. The day 1 is the one of the examples.
func meadowTable() [][]int {
	return [][]int{
		{17, 16, 15, 18, 21, 24, 27, 30, 33, 38, 43},
		{6, 2, 1, 0, 0, 0, 5, 10, 15, 20, 25},
		{-1, -1, 8, 4, 0, 0, 0, 0, 0, 0, 0},
		{0, 0, 0, 0, 0, 0, 0, 0, 0, 0, 0},
	}
}

// ditch has the levels 5 to 8, and a day on which pumping costs 2 and letting in 7.
func ditch(rain polder.Range, seep, pump, inlet int) polder.Polder {
	return polder.Polder{Low: 5, High: 8, Start: to(5, 8), Pump: pump, Inlet: inlet, Days: []polder.Day{{Rain: rain, Seep: seep, Out: 2, In: 7}}}
}

// then is a polder with more days, each one like its first one but for the rain.
func then(p polder.Polder, rains ...polder.Range) polder.Polder {
	p = cloned(p)
	for _, rain := range rains {
		d := p.Days[0]
		d.Rain = rain
		p.Days = append(p.Days, d)
	}
	return p
}

// started is a polder that starts at other levels.
func started(p polder.Polder, low, high int) polder.Polder {
	p.Start = to(low, high)
	return p
}

// full has as much of all as a polder can have. It has to be pumped all the time.
func full() polder.Polder {
	d := polder.Day{Rain: to(api.MaxDaily, api.MaxDaily), Out: api.MaxTariff, In: api.MaxTariff}
	return polder.Polder{
		High: api.MaxWater, Start: to(api.MaxWater, api.MaxWater), Pump: api.MaxDaily, Inlet: api.MaxDaily,
		Days: slices.Repeat([]polder.Day{d}, api.MaxDays),
	}
}

// cloned is a polder of which all can be changed.
func cloned(p polder.Polder) polder.Polder {
	p.Days = slices.Clone(p.Days)
	return p
}

// change is what makes a polder another one.
type change func(p *polder.Polder)

func (c change) of(p polder.Polder) polder.Polder {
	p = cloned(p)
	c(&p)
	return p
}

// beyond are numbers that are not from low to high.
func beyond(low, high int) []int {
	return []int{low - 1, high + 1, math.MinInt, math.MaxInt}
}

// badRanges are no ranges with ends from low to high.
func badRanges(low, high int) []polder.Range {
	l := []polder.Range{to(low+1, low), to(high, high-1), to(math.MinInt, math.MaxInt), to(math.MaxInt, math.MinInt)}
	for _, n := range beyond(low, high) {
		l = append(l, to(n, n), to(n, high), to(low, n))
	}
	return l
}

// invalidChanges make the meadow no polder.
func invalidChanges() []change {
	l := []change{
		func(p *polder.Polder) { p.Days = nil },
		func(p *polder.Polder) { p.Days = []polder.Day{} },
		func(p *polder.Polder) { *p = polder.Polder{} },
		func(p *polder.Polder) { p.Low, p.High = 20, 10 },
		func(p *polder.Polder) { p.Low, p.High, p.Start = 15, 14, to(15, 14) },
		func(p *polder.Polder) { p.Low, p.High, p.Start = -1, -1, to(-1, -1) },
		func(p *polder.Polder) { p.Low, p.High, p.Start = 61, 61, to(61, 61) },
	}
	for _, n := range beyond(0, 14) {
		l = append(l, func(p *polder.Polder) { p.Low = n })
	}
	for _, n := range beyond(16, api.MaxWater) {
		l = append(l, func(p *polder.Polder) { p.High = n })
	}
	for _, r := range badRanges(10, 20) {
		l = append(l, func(p *polder.Polder) { p.Start = r })
	}
	for _, n := range beyond(0, api.MaxDaily) {
		l = append(l, func(p *polder.Polder) { p.Pump = n }, func(p *polder.Polder) { p.Inlet = n })
	}
	for day := range meadow().Days {
		for _, r := range badRanges(0, api.MaxRainfall) {
			l = append(l, func(p *polder.Polder) { p.Days[day].Rain = r })
		}
		for _, n := range beyond(0, api.MaxRainfall) {
			l = append(l, func(p *polder.Polder) { p.Days[day].Seep = n })
		}
		for _, n := range beyond(0, api.MaxTariff) {
			l = append(l, func(p *polder.Polder) { p.Days[day].Out = n }, func(p *polder.Polder) { p.Days[day].In = n })
		}
	}
	return l
}

// badPolder is a polder that no call takes, and why.
type badPolder struct {
	p    polder.Polder
	want api.Errno
}

func badPolders() []badPolder {
	var l []badPolder
	for _, c := range invalidChanges() {
		l = append(l, badPolder{c.of(meadow()), api.ErrArg})
	}
	days := func(p *polder.Polder) { p.Days = slices.Repeat(p.Days[:1], api.MaxDays+1) }
	// The error that the table asks for first.
	for _, c := range []change{
		days,
		func(p *polder.Polder) { p.Days = slices.Repeat(p.Days, 100) },
		func(p *polder.Polder) { p.Days = make([]polder.Day, api.MaxDays+1) },
		func(p *polder.Polder) { days(p); p.Low = -1 },
		func(p *polder.Polder) { days(p); p.Start = to(2, 1) },
		func(p *polder.Polder) { days(p); p.Days[12].Rain = to(2, 1) },
	} {
		l = append(l, badPolder{c.of(meadow()), api.ErrLimit})
	}
	return l
}

// The calls that have no result.

func askedHold(t *testing.T, p polder.Polder, want api.Errno) {
	t.Helper()
	if l, e := polder.Hold(p); e != want || l != nil {
		t.Errorf("Hold of %v: %v, %v, not %v", p, l, e, want)
	}
}

func askedLeast(t *testing.T, p polder.Polder, want api.Errno) {
	t.Helper()
	if n, e := polder.Least(p); e != want || n != 0 {
		t.Errorf("Least of %v: %d, %v, not %v", p, n, e, want)
	}
}

func askedBest(t *testing.T, p polder.Polder, day, level int, want api.Errno) {
	t.Helper()
	if amount, cost, e := polder.Best(p, day, level); e != want || amount != 0 || cost != 0 {
		t.Errorf("Best of %v, the day %d at %d: %d, %d, %v, not %v", p, day, level, amount, cost, e, want)
	}
}

func askedPlay(t *testing.T, p polder.Polder, start int, rains []int, want api.Errno) {
	t.Helper()
	if levels, amounts, cost, e := polder.Play(p, start, rains); e != want || levels != nil || amounts != nil || cost != 0 {
		t.Errorf("Play of %v from %d with %v: %v, %v, %d, %v, not %v", p, start, rains, levels, amounts, cost, e, want)
	}
}

func askedWorst(t *testing.T, p polder.Polder, want api.Errno) {
	t.Helper()
	if start, rains, e := polder.Worst(p); e != want || start != 0 || rains != nil {
		t.Errorf("Worst of %v: %d, %v, %v, not %v", p, start, rains, e, want)
	}
}

func askedTable(t *testing.T, p polder.Polder, want api.Errno) {
	t.Helper()
	if l, e := polder.Table(p); e != want || l != nil {
		t.Errorf("Table of %v: %v, %v, not %v", p, l, e, want)
	}
}

// cannot asks for what only a polder has that can be held.
func cannot(t *testing.T, p polder.Polder) {
	t.Helper()
	askedLeast(t, p, api.ErrFail)
	askedWorst(t, p, api.ErrFail)
	for _, start := range numbers(p.Start.Lo, p.Start.Hi) {
		for _, greater := range []bool{false, true} {
			askedPlay(t, p, start, endOf(p, greater), api.ErrFail)
		}
	}
}

// endOf is the least or the greatest rain.
func endOf(p polder.Polder, greater bool) []int {
	var rains []int
	for _, d := range p.Days {
		if greater {
			rains = append(rains, d.Rain.Hi)
		} else {
			rains = append(rains, d.Rain.Lo)
		}
	}
	return rains
}

// The calls that have one.

func holds(t *testing.T, name string, p polder.Polder, want ...polder.Range) {
	t.Helper()
	if l, e := polder.Hold(p); e != api.OK || !slices.Equal(l, want) {
		t.Errorf("%s: Hold of %v: %v, %v, not %v", name, p, l, e, want)
	}
}

// costs asks for the cost, and what costs it.
func costs(t *testing.T, name string, p polder.Polder, want int) {
	t.Helper()
	if n, e := polder.Least(p); e != api.OK || n != want {
		t.Errorf("%s: Least of %v: %d, %v, not %d", name, p, n, e, want)
	}
	start, rains, e := polder.Worst(p)
	if e != api.OK {
		t.Errorf("%s: Worst of %v: %v", name, p, e)
		return
	}
	if _, _, cost, e := polder.Play(p, start, rains); e != api.OK || cost != want {
		t.Errorf("%s: Play of %v from %d with %v, the worst ones: %d, %v, not %d", name, p, start, rains, cost, e, want)
	}
}

func best(t *testing.T, name string, p polder.Polder, day, level, amount, cost int) {
	t.Helper()
	if n, c, e := polder.Best(p, day, level); e != api.OK || n != amount || c != cost {
		t.Errorf("%s: Best of %v, the day %d at %d: %d, %d, %v, not %d, %d", name, p, day, level, n, c, e, amount, cost)
	}
}

func plays(t *testing.T, name string, p polder.Polder, start int, rains []int, want followed) {
	t.Helper()
	levels, amounts, cost, e := polder.Play(p, start, rains)
	if e != api.OK || !slices.Equal(levels, want.levels) || !slices.Equal(amounts, want.amounts) || cost != want.cost {
		t.Errorf("%s: Play of %v from %d with %v: %v, %v, %d, %v, not %v", name, p, start, rains, levels, amounts, cost, e, want)
	}
}

func isSame(table, other [][]int) bool { return slices.EqualFunc(table, other, slices.Equal) }

func tables(t *testing.T, name string, p polder.Polder, want [][]int) {
	t.Helper()
	if l, e := polder.Table(p); e != api.OK || !isSame(l, want) {
		t.Errorf("%s: Table of %v: %v, %v, not %v", name, p, l, e, want)
	}
	proves(t, name, p, want, true, true)
}

func proves(t *testing.T, name string, p polder.Polder, table [][]int, keeps, needs bool) {
	t.Helper()
	if is := polder.ProveKeeps(p, table); is != keeps {
		t.Errorf("%s: ProveKeeps of %v, %v: %v", name, p, table, is)
	}
	if is := polder.ProveNeeds(p, table); is != needs {
		t.Errorf("%s: ProveNeeds of %v, %v: %v", name, p, table, is)
	}
}

// P10.1

func TestCheckPolder(t *testing.T) {
	for _, c := range []change{
		func(p *polder.Polder) {},
		func(p *polder.Polder) { *p = full() },
		func(p *polder.Polder) { p.Low, p.High = 0, api.MaxWater },
		func(p *polder.Polder) { p.Low, p.High, p.Start = 0, 0, to(0, 0) },
		func(p *polder.Polder) { p.Low, p.High, p.Start = 60, 60, to(60, 60) },
		func(p *polder.Polder) { p.Low, p.High = 14, 16 },
		func(p *polder.Polder) { p.Start = to(10, 20) },
		func(p *polder.Polder) { p.Start = to(10, 10) },
		func(p *polder.Polder) { p.Start = to(20, 20) },
		func(p *polder.Polder) { p.Pump, p.Inlet = 0, 0 },
		func(p *polder.Polder) { p.Pump, p.Inlet = api.MaxDaily, api.MaxDaily },
		func(p *polder.Polder) { p.Days = p.Days[:1] },
		func(p *polder.Polder) { p.Days = slices.Repeat(p.Days, 4) },
		func(p *polder.Polder) { p.Days = make([]polder.Day, 1) },
		func(p *polder.Polder) { p.Days[2] = polder.Day{Rain: to(0, 30), Seep: 30, Out: 100, In: 100} },
		func(p *polder.Polder) { p.Days[0].Rain = to(30, 30) },
	} {
		if p := c.of(meadow()); polder.CheckPolder(p) != api.OK {
			t.Errorf("CheckPolder of %v: %v", p, polder.CheckPolder(p))
		}
	}
	for _, x := range badPolders() {
		if e := polder.CheckPolder(x.p); e != x.want {
			t.Errorf("CheckPolder of %v: %v, not %v", x.p, e, x.want)
		}
	}
}

// TestRefusedPolders has polders that no call takes, whatever is asked of them.
func TestRefusedPolders(t *testing.T) {
	for _, x := range badPolders() {
		askedHold(t, x.p, x.want)
		askedLeast(t, x.p, x.want)
		askedWorst(t, x.p, x.want)
		askedTable(t, x.p, x.want)
		for _, day := range []int{0, -1, 99} {
			for _, level := range []int{15, -1, 99} {
				askedBest(t, x.p, day, level, x.want)
			}
		}
		for _, start := range []int{15, -1, 99} {
			for _, rains := range [][]int{{4, 4, 4}, nil, {-1}, make([]int, len(x.p.Days))} {
				askedPlay(t, x.p, start, rains, x.want)
			}
		}
		for _, table := range [][][]int{meadowTable(), nil, {nil}, slices.Repeat([][]int{make([]int, 11)}, len(x.p.Days)+1)} {
			proves(t, "a bad polder", x.p, table, false, false)
		}
	}
}

func TestHold(t *testing.T) {
	holds(t, "the example", meadow(), to(10, 20), to(10, 20), to(12, 20))
	for _, x := range []struct {
		name              string
		rain              polder.Range
		seep, pump, inlet int
		want              polder.Range
	}{
		{"nothing comes", to(0, 0), 0, 0, 0, to(5, 8)},
		{"it may rain", to(0, 2), 0, 0, 0, to(5, 6)},
		{"as much as there is room", to(0, 3), 0, 0, 0, to(5, 5)},
		{"pumped", to(0, 2), 0, 1, 0, to(5, 7)},
		{"pumped", to(0, 2), 0, 2, 0, to(5, 8)},
		{"pumped, with more than is needed", to(0, 2), 0, 20, 0, to(5, 8)},
		{"more than all levels", to(0, 3), 0, 3, 0, to(5, 8)},
		{"more than all levels", to(0, 3), 0, 2, 0, to(5, 7)},
		{"it surely rains", to(3, 3), 0, 0, 0, to(5, 5)},
		{"it surely rains", to(3, 3), 0, 1, 0, to(5, 6)},
		{"it surely rains much", to(9, 9), 0, 6, 0, to(5, 5)},
		{"it surely rains much", to(9, 10), 0, 7, 0, to(5, 5)},
		{"it seeps", to(0, 0), 2, 0, 0, to(7, 8)},
		{"let in", to(0, 0), 2, 0, 1, to(6, 8)},
		{"let in", to(0, 0), 2, 0, 2, to(5, 8)},
		{"let in, with more than is needed", to(0, 0), 2, 0, 20, to(5, 8)},
		{"much seeps", to(0, 0), 9, 0, 6, to(8, 8)},
		{"it rains and seeps", to(0, 2), 1, 0, 0, to(6, 7)},
		{"it rains and seeps", to(0, 2), 1, 1, 0, to(6, 8)},
		{"it rains and seeps", to(0, 2), 1, 0, 1, to(5, 7)},
		{"it rains and seeps", to(2, 4), 3, 1, 1, to(5, 8)},
		{"as much as seeps", to(30, 30), 30, 0, 0, to(5, 8)},
		{"the levels within a day do not matter", to(20, 20), 0, 20, 0, to(5, 8)},
	} {
		p := ditch(x.rain, x.seep, x.pump, x.inlet)
		holds(t, x.name, p, x.want)
		holds(t, x.name, started(p, 6, 6), x.want)
		holds(t, x.name, started(p, 5, 5), x.want)
	}
	for _, p := range []polder.Polder{
		ditch(to(0, 4), 0, 20, 20),
		ditch(to(9, 9), 0, 5, 0),
		ditch(to(9, 9), 0, 5, 20),
		ditch(to(0, 0), 9, 20, 5),
		ditch(to(30, 30), 0, 20, 20),
		ditch(to(0, 30), 15, 20, 20),
	} {
		askedHold(t, p, api.ErrFail)
		cannot(t, p)
	}
}

// TestHoldDays has levels that cannot be held for the days behind.
func TestHoldDays(t *testing.T) {
	holds(t, "two days of rain", then(ditch(to(1, 1), 0, 0, 0), to(1, 1)), to(5, 6), to(5, 7))
	holds(t, "two days of rain", then(ditch(to(0, 1), 0, 0, 0), to(0, 2)), to(5, 5), to(5, 6))
	holds(t, "rain behind", then(ditch(to(0, 0), 0, 0, 0), to(0, 2)), to(5, 6), to(5, 6))
	holds(t, "rain ahead", then(ditch(to(0, 2), 0, 0, 0), to(0, 0)), to(5, 6), to(5, 8))
	holds(t, "pumped ahead", then(ditch(to(0, 0), 0, 1, 0), to(3, 3), to(0, 0)), to(5, 7), to(5, 6), to(5, 8))
	holds(t, "pumped ahead for long", then(ditch(to(0, 0), 0, 1, 0), to(0, 0), to(0, 0), to(4, 4)), to(5, 8), to(5, 7), to(5, 6), to(5, 5))
	holds(t, "all days", full(), slices.Repeat([]polder.Range{to(0, 60)}, api.MaxDays)...)
	holds(t, "levels alone", started(polder.Polder{Days: make([]polder.Day, 2)}, 0, 0), to(0, 0), to(0, 0))
	for _, p := range []polder.Polder{
		then(ditch(to(0, 4), 0, 20, 20), to(0, 0)),           // only the first day
		then(ditch(to(0, 0), 0, 20, 20), to(0, 4)),           // only the last one
		then(ditch(to(0, 0), 0, 20, 20), to(0, 4), to(0, 0)), // one between
		then(ditch(to(1, 1), 0, 0, 0), to(2, 2), to(1, 1)),   // too much of all together
		then(ditch(to(0, 2), 0, 0, 20), to(0, 2)),            // what may come
		then(ditch(to(0, 1), 0, 0, 0), to(0, 2), to(0, 1)),   // what may come
		then(ditch(to(0, 0), 0, 1, 0), to(9, 9), to(0, 0)),   // more than is pumped
		then(ditch(to(3, 3), 0, 1, 0), to(3, 3), to(0, 0)),   // more than is pumped on two days
		then(ditch(to(0, 0), 2, 0, 0), to(0, 0)),             // what seeps on two days
		started(polder.Polder{Days: slices.Repeat([]polder.Day{{Rain: to(0, 1)}}, 2)}, 0, 0),
	} {
		askedHold(t, p, api.ErrFail)
		cannot(t, p)
		askedBest(t, p, 0, p.Low, api.ErrFail)
		askedBest(t, p, 0, p.High, api.ErrFail)
	}
}

// P10.2

func TestLeast(t *testing.T) {
	costs(t, "the example", meadow(), 27)
	for _, x := range []struct{ low, high, want int }{{10, 10, 17}, {12, 12, 15}, {10, 12, 17}, {11, 13, 18}, {10, 20, 43}, {20, 20, 43}} {
		costs(t, "the meadow from other levels", started(meadow(), x.low, x.high), x.want)
	}
	for _, x := range []struct {
		rain                               polder.Range
		seep, pump, inlet, low, high, want int
	}{
		{to(0, 0), 0, 9, 9, 5, 8, 0},
		{to(0, 2), 0, 2, 0, 5, 8, 4},
		{to(0, 2), 0, 2, 9, 5, 8, 4},
		{to(0, 2), 0, 2, 0, 5, 7, 2},
		{to(0, 2), 0, 2, 0, 5, 6, 0},
		{to(0, 2), 0, 1, 0, 5, 7, 2},
		{to(0, 2), 2, 0, 2, 5, 8, 14},
		{to(0, 2), 2, 0, 2, 6, 8, 7},
		{to(0, 2), 2, 0, 2, 7, 8, 0},
		{to(0, 2), 1, 1, 1, 5, 8, 7},
		{to(0, 2), 1, 1, 1, 6, 8, 2},
		{to(0, 2), 1, 1, 0, 6, 8, 2},
		{to(0, 3), 0, 3, 0, 8, 8, 6},
		{to(20, 20), 0, 20, 0, 8, 8, 40},
		{to(20, 20), 0, 20, 0, 5, 5, 34},
	} {
		costs(t, "the ditch", started(ditch(x.rain, x.seep, x.pump, x.inlet), x.low, x.high), x.want)
	}
	// The level of Start that cannot be held, of those that can.
	for _, x := range []struct{ low, high int }{{5, 8}, {8, 8}, {7, 8}} {
		p := started(ditch(to(0, 2), 0, 1, 0), x.low, x.high)
		cannot(t, p)
		best(t, "another level", p, 0, 7, 1, 2)
		holds(t, "other levels", p, to(5, 7))
	}
	for _, x := range []struct{ low, high int }{{5, 8}, {5, 5}, {5, 7}} {
		cannot(t, started(ditch(to(0, 2), 2, 0, 1), x.low, x.high))
	}
}

// TestGreatestCosts has the most that a polder can cost.
func TestGreatestCosts(t *testing.T) {
	const each = api.MaxDaily * api.MaxTariff
	costs(t, "pumped all the time", full(), api.MaxDays*each)
	costs(t, "with room", started(full(), 40, 40), (api.MaxDays-1)*each)
	costs(t, "with room", started(full(), 0, 59), api.MaxDays*each-api.MaxTariff)
	low := started(full(), 0, 0)
	for n := range low.Days {
		low.Days[n].Rain, low.Days[n].Seep = to(0, 0), api.MaxDaily
	}
	costs(t, "let in all the time", low, api.MaxDays*each)
	costs(t, "with room", started(low, 1, 60), api.MaxDays*each-api.MaxTariff)
	best(t, "pumped all the time", full(), 0, 60, 20, api.MaxDays*each)
	best(t, "let in all the time", low, 11, 0, -20, each)
	free := full()
	for n := range free.Days {
		free.Days[n].Out, free.Days[n].In = 0, 0
	}
	costs(t, "for nothing", free, 0)
}

func TestBest(t *testing.T) {
	for _, x := range []struct{ day, level, amount, cost int }{
		{0, 14, 2, 21}, {2, 12, -2, 8}, // the examples
		{0, 10, -2, 17}, {0, 11, -1, 16}, {0, 12, 0, 15}, {0, 13, 1, 18}, {0, 16, 4, 27}, {0, 18, 6, 33}, {0, 19, 6, 38}, {0, 20, 6, 43},
		{1, 10, -2, 6}, {1, 11, -2, 2}, {1, 12, -1, 1}, {1, 13, 0, 0}, {1, 15, 0, 0}, {1, 16, 1, 5}, {1, 20, 5, 25},
		{2, 13, -1, 4}, {2, 14, 0, 0}, {2, 20, 0, 0},
	} {
		best(t, "the meadow", meadow(), x.day, x.level, x.amount, x.cost)
		best(t, "the meadow from a level that cannot be held", started(meadow(), 10, 20), x.day, x.level, x.amount, x.cost)
	}
	for _, level := range []int{10, 11} {
		askedBest(t, meadow(), 2, level, api.ErrFail)
	}
	// Not the amount that is cheaper today.
	wet := then(ditch(to(0, 0), 0, 3, 0), to(3, 3))
	wet.Days[1].Out = 9
	for level, cost := range []int{0, 2, 4, 6} {
		best(t, "pumped ahead of the rain", wet, 0, 5+level, level, cost)
	}
	wet.Days[1].Out = 1
	for level, cost := range []int{0, 1, 2, 3} {
		best(t, "pumped when it is cheaper", wet, 0, 5+level, 0, cost)
	}
}

// TestLeastAmount has amounts that cost the same in the end.
func TestLeastAmount(t *testing.T) {
	free := ditch(to(0, 0), 0, 2, 1)
	free.Days[0].Out, free.Days[0].In = 0, 0
	for level, want := range []int{-1, -1, -1, 0} {
		best(t, "for nothing", free, 0, 5+level, want, 0)
	}
	free.Days[0].Out = 3
	best(t, "let in for nothing", free, 0, 5, -1, 0)
	free.Days[0].Out, free.Days[0].In = 0, 3
	best(t, "pumped for nothing", free, 0, 8, 0, 0)
	wet := then(ditch(to(0, 0), 0, 3, 0), to(3, 3))
	for level, cost := range []int{0, 2, 4, 6} {
		best(t, "today or tomorrow", wet, 0, 5+level, 0, cost)
		best(t, "tomorrow", wet, 1, 5+level, level, cost)
	}
	dry := then(ditch(to(0, 0), 3, 0, 6), to(0, 0))
	for level, want := range []int{-6, -5, -4, -3} {
		best(t, "all of it today", dry, 0, 5+level, want, -7*want)
	}
}

func TestRefusedLevels(t *testing.T) {
	for _, day := range beyond(0, 2) {
		for _, level := range []int{10, 15, 20, 9, 21} {
			askedBest(t, meadow(), day, level, api.ErrRange)
		}
	}
	for _, level := range beyond(10, 20) {
		for _, day := range []int{0, 1, 2, 3, -1} {
			askedBest(t, meadow(), day, level, api.ErrRange)
		}
	}
	none := ditch(to(0, 4), 0, 0, 0)
	for _, level := range beyond(5, 8) {
		askedBest(t, none, 0, level, api.ErrRange)
	}
	askedBest(t, none, 1, 5, api.ErrRange)
	for level := 5; level <= 8; level++ {
		askedBest(t, none, 0, level, api.ErrFail)
	}
	best(t, "a level that Start has not", meadow(), 0, 20, 6, 43)
}

// P10.3

func TestPlay(t *testing.T) {
	for _, x := range []struct {
		start                  int
		rains, levels, amounts []int
		cost                   int
	}{
		{16, []int{0, 6, 4}, []int{10, 17, 17}, []int{4, -2, 0}, 14}, // the example
		{16, []int{8, 6, 0}, []int{18, 20, 16}, []int{4, 3, 0}, 27},
		{16, []int{8, 2, 4}, []int{18, 16, 16}, []int{4, 3, 0}, 27},
		{14, []int{3, 2, 0}, []int{13, 14, 10}, []int{2, 0, 0}, 6},
		{14, []int{0, 2, 0}, []int{10, 13, 10}, []int{2, -2, -1}, 12},
		{15, []int{4, 3, 2}, []int{14, 16, 14}, []int{3, 0, 0}, 9},
	} {
		plays(t, "the meadow", meadow(), x.start, x.rains, followed{levels: x.levels, amounts: x.amounts, cost: x.cost})
	}
	dry := then(ditch(to(0, 0), 3, 0, 6), to(0, 0))
	plays(t, "let in", dry, 6, []int{0, 0}, followed{levels: []int{8, 5}, amounts: []int{-5, 0}, cost: 35})
	plays(t, "one day", ditch(to(0, 2), 0, 2, 0), 8, []int{1}, followed{levels: []int{7}, amounts: []int{2}, cost: 4})
	rains := slices.Repeat([]int{20}, api.MaxDays)
	plays(t, "all days", full(), 60, rains, followed{levels: slices.Repeat([]int{60}, api.MaxDays), amounts: rains, cost: 24000})
}

func TestRefusedRains(t *testing.T) {
	p := meadow()
	for _, start := range append(beyond(14, 16), 10, 20, 0) {
		askedPlay(t, p, start, []int{0, 6, 4}, api.ErrRange)
		askedPlay(t, p, start, []int{0, 6}, api.ErrRange)
	}
	for _, rains := range [][]int{nil, {}, {0}, {0, 6}, {0, 6, 4, 0}, {0, 6, 4, 4}, make([]int, 100)} {
		askedPlay(t, p, 15, rains, api.ErrRange)
	}
	for day, d := range p.Days {
		for _, n := range beyond(d.Rain.Lo, d.Rain.Hi) {
			rains := []int{4, 4, 4}
			rains[day] = n
			askedPlay(t, p, 15, rains, api.ErrRange)
		}
	}
	// What cannot be held either.
	none := started(ditch(to(0, 2), 0, 1, 0), 7, 8)
	for _, start := range []int{5, 6, 9} {
		askedPlay(t, none, start, []int{1}, api.ErrRange)
	}
	for _, rains := range [][]int{nil, {3}, {-1}, {1, 1}} {
		askedPlay(t, none, 7, rains, api.ErrRange)
		askedPlay(t, none, 8, rains, api.ErrRange)
	}
	askedPlay(t, none, 7, []int{1}, api.ErrFail) // the level 8 cannot be held
}

// TestWorst has polders of which only one start and one rain cost the most.
func TestWorst(t *testing.T) {
	isWorst := func(p polder.Polder, want int, rain ...int) {
		t.Helper()
		if start, rains, e := polder.Worst(p); e != api.OK || start != want || !slices.Equal(rains, rain) {
			t.Errorf("Worst of %v: %d, %v, %v, not %d, %v", p, start, rains, e, want, rain)
		}
	}
	wet := then(ditch(to(0, 3), 0, 3, 3), to(3, 3))
	wet.Days[1].Out = 1
	isWorst(wet, 8, 3, 3)
	isWorst(started(wet, 6, 7), 7, 3, 3)
	dry := then(ditch(to(0, 3), 3, 3, 3), to(0, 0))
	dry.Days[1].In = 1
	isWorst(dry, 5, 0, 0)
	isWorst(started(dry, 6, 7), 6, 0, 0)
	isWorst(full(), 60, slices.Repeat([]int{20}, api.MaxDays)...)
}

// P10.4

func TestTable(t *testing.T) {
	tables(t, "the example", meadow(), meadowTable())
	tables(t, "from a level that cannot be held", from(started(meadow(), 10, 10), 2), meadowTable()[2:])
	tables(t, "a level that cannot be held", ditch(to(0, 2), 0, 1, 0), [][]int{{0, 0, 2, -1}, {0, 0, 0, 0}})
	tables(t, "let in", ditch(to(0, 2), 2, 0, 1), [][]int{{-1, 7, 0, 0}, {0, 0, 0, 0}})
	tables(t, "none can be held", ditch(to(0, 4), 0, 9, 9), [][]int{{-1, -1, -1, -1}, {0, 0, 0, 0}})
	tables(t, "none can be held on the last day", then(ditch(to(0, 0), 0, 9, 9), to(0, 4)), [][]int{{-1, -1, -1, -1}, {-1, -1, -1, -1}, {0, 0, 0, 0}})
	tables(t, "none can be held on the first day", then(ditch(to(0, 4), 0, 1, 0), to(0, 2)), [][]int{{-1, -1, -1, -1}, {0, 0, 2, -1}, {0, 0, 0, 0}})
	tables(t, "one level", polder.Polder{Low: 60, High: 60, Start: to(60, 60), Pump: 1, Days: []polder.Day{{Rain: to(3, 3), Seep: 2, Out: 100}}}, [][]int{{100}, {0}})
	for _, p := range []polder.Polder{full(), started(full(), 0, 60)} {
		table, e := polder.Table(p)
		if e != api.OK || len(table) != api.MaxDays+1 || len(table[0]) != api.MaxWater+1 || table[0][60] != 24000 || table[11][0] != 0 || table[11][60] != 2000 {
			t.Errorf("Table of %v: %v, %v", p, table, e)
		}
	}
}

// P10.5

func copied(table [][]int) [][]int {
	var l [][]int
	for _, row := range table {
		l = append(l, slices.Clone(row))
	}
	return l
}

func TestProve(t *testing.T) {
	for _, x := range []struct {
		day, at, number int
		keeps, needs    bool
	}{
		{0, 0, 17, true, true}, {0, 0, 18, true, false}, {0, 0, 16, false, true}, {0, 0, 0, false, true}, {0, 0, -1, true, false},
		{0, 10, 42, false, true}, {0, 10, 44, true, false}, {0, 5, 100000, true, false},
		{1, 0, 5, false, true}, {1, 0, 7, true, false}, {1, 5, 1, true, false}, {1, 10, 24, false, false}, {1, 10, 26, false, false}, {1, 10, -1, false, false},
		{2, 0, 0, false, true}, {2, 0, 100000, false, true}, {2, 2, 7, false, true}, {2, 2, 9, true, false}, {2, 2, -1, true, false}, {2, 10, 1, false, false},
		{3, 5, 1, false, false}, {3, 0, 1, false, false}, {3, 10, -1, false, false},
	} {
		table := meadowTable()
		table[x.day][x.at] = x.number
		proves(t, "the meadow", meadow(), table, x.keeps, x.needs)
	}
	for day := range meadowTable() {
		for n := range 11 {
			for _, number := range append(beyond(-1, api.MaxBill), -2) {
				table := meadowTable()
				table[day][n] = number
				proves(t, "no number", meadow(), table, false, false)
			}
		}
	}
}

// TestProveMuch has tables that are far from the least costs.
func TestProveMuch(t *testing.T) {
	rows := func(l ...int) [][]int {
		all := [][]int{}
		for _, n := range l {
			all = append(all, slices.Repeat([]int{n}, 11))
		}
		return append(all, make([]int, 11))
	}
	for _, x := range []struct {
		table        [][]int
		keeps, needs bool
	}{
		{rows(-1, -1, -1), true, false},
		{rows(0, 0, 0), false, true},
		{rows(api.MaxBill, api.MaxBill, api.MaxBill), false, false}, // the levels 10 and 11 of the day 2
		{rows(-1, -1, 0), false, false},
		{rows(5, -1, -1), false, false}, // the day 1
	} {
		proves(t, "the meadow", meadow(), x.table, x.keeps, x.needs)
	}
	some := meadowTable()
	some[0] = []int{-1, 100, 15, -1, 21, 100000, -1, -1, -1, 38, -1}
	proves(t, "some levels", meadow(), some, true, false)
	much := meadowTable()
	much[0], much[1] = slices.Repeat([]int{1000}, 11), slices.Repeat([]int{900}, 11)
	proves(t, "more than enough", meadow(), much, true, false)
	little := meadowTable()
	little[0], little[1], little[2] = make([]int, 11), slices.Repeat([]int{0}, 11), []int{3, 3, 2, 1, 0, 0, 0, 0, 0, 0, 0}
	proves(t, "not enough", meadow(), little, false, true)
}

// TestProveBetween has tables that are no costs, so that the rain between the ends
// matters.
func TestProveBetween(t *testing.T) {
	p := then(ditch(to(0, 3), 0, 3, 0), to(0, 0))
	p.Days[1] = polder.Day{Rain: to(0, 0)}
	for _, x := range []struct {
		table        [][]int
		keeps, needs bool
	}{
		{[][]int{{0, 2, 4, 6}, {0, 0, 0, 0}, {0, 0, 0, 0}}, true, true},
		{[][]int{{0, 2, 4, 6}, {0, 5, 0, 0}, {0, 0, 0, 0}}, false, false},
		{[][]int{{5, 7, 9, 11}, {0, 5, 0, 0}, {0, 0, 0, 0}}, true, false},
		{[][]int{{5, 7, 9, 11}, {0, 5, 3, 0}, {0, 0, 0, 0}}, true, false},
		{[][]int{{4, 7, 9, 11}, {0, 5, 3, 0}, {0, 0, 0, 0}}, false, false},
		{[][]int{{-1, -1, -1, -1}, {0, -1, 0, 0}, {0, 0, 0, 0}}, true, false}, // the day 1 needs no -1
		{[][]int{{0, -1, -1, -1}, {0, 0, -1, 0}, {0, 0, 0, 0}}, false, false},
	} {
		proves(t, "rain between", p, x.table, x.keeps, x.needs)
	}
	// On the day 1 only the ends can be held: 6 and 7 cannot, as what comes then is -1.
	p.Days = append(p.Days, polder.Day{Rain: to(0, 4)})
	proves(t, "what is -1", p, [][]int{{0, 0, 0, 0}, {0, -1, -1, 0}, {-1, -1, -1, -1}, {0, 0, 0, 0}}, false, true)
	proves(t, "what is -1", p, [][]int{{-1, -1, -1, -1}, {0, -1, -1, 0}, {-1, -1, -1, -1}, {0, 0, 0, 0}}, false, true)
	proves(t, "what is -1", p, [][]int{{-1, -1, -1, -1}, {0, 0, 0, 0}, {-1, -1, -1, -1}, {0, 0, 0, 0}}, false, false)
}

func TestNoTables(t *testing.T) {
	right := meadowTable()
	for _, table := range [][][]int{
		nil, {}, {nil}, {{}, {}, {}, {}}, right[:1], right[:3], right[1:], right[3:],
		append(copied(right), right[3]), slices.Repeat(right, 50),
	} {
		proves(t, "no table", meadow(), table, false, false)
	}
	for day := range right {
		for _, row := range [][]int{nil, {}, right[day][:10], right[day][1:], slices.Concat(right[day], []int{0}), slices.Concat(right[day], []int{-1}), slices.Repeat(right[day], 2)} {
			table := copied(right)
			table[day] = row
			proves(t, "a list of other levels", meadow(), table, false, false)
		}
	}
	proves(t, "the table of another one", then(meadow(), to(0, 0)), right, false, false)
	proves(t, "the table of another one", from(meadow(), 1), right, false, false)
	proves(t, "the start does not matter", started(meadow(), 20, 20), right, true, true)
}

// P10.1 to P10.5

// asked asks for all that a table tells of a polder.
func asked(t *testing.T, p polder.Polder, table [][]int) {
	t.Helper()
	tables(t, "the model", p, table)
	if ranges := modelHold(p, table); ranges != nil {
		holds(t, "the model", p, ranges...)
	} else {
		askedHold(t, p, api.ErrFail)
	}
	for day := range p.Days {
		for level := p.Low; level <= p.High; level++ {
			if amount, cost := modelBest(p, table, day, level); cost != never {
				best(t, "the model", p, day, level, amount, cost)
			} else {
				askedBest(t, p, day, level, api.ErrFail)
			}
		}
	}
	if cost := modelCost(p, table); cost != never {
		costs(t, "the model", p, cost)
	} else {
		cannot(t, p)
	}
}

// TestModel holds the calls against the model.
func TestModel(t *testing.T) {
	eachPolder(t, 200, small, func(r *rand.Rand, p polder.Polder) {
		table := modelTable(p)
		asked(t, p, table)
		if modelCost(p, table) == never {
			return
		}
		move := func(day, level int) int {
			amount, _ := modelBest(p, table, day, level)
			return amount
		}
		modelRains(p, func(rains []int) {
			for start := p.Start.Lo; start <= p.Start.Hi; start++ {
				plays(t, "the model", p, start, rains, modelFollow(p, start, rains, move))
			}
		})
	})
}

// TestGreatModel holds the calls against tables that keep and need by the model,
// which are those of the least costs then.
func TestGreatModel(t *testing.T) {
	eachPolder(t, 24, slices.Concat(great, middle), func(r *rand.Rand, p polder.Polder) {
		table := mustTable(t, p)
		if !modelKeeps(p, table) || !modelNeeds(p, table) {
			t.Fatalf("Table of %v: %v", p, table)
		}
		asked(t, p, table)
	})
}

// TestModelProofs has tables of which some numbers are changed.
func TestModelProofs(t *testing.T) {
	c := counts{}
	eachPolder(t, 6000, slices.Concat(small, small, middle), func(r *rand.Rand, p polder.Polder) {
		table := changed(r, p, mustTable(t, p))
		keeps, needs := modelKeeps(p, table), modelNeeds(p, table)
		c.add("keeps", keeps)
		c.add("needs", needs)
		c.add("keeps and needs", keeps && needs)
		c.add("keeps or needs", keeps || needs)
		proves(t, "the model", p, table, keeps, needs)
	})
	for name, n := range c {
		if n < 300 {
			t.Errorf("%s: %d times", name, n)
		}
	}
}

// changed is a table with some other numbers.
func changed(r *rand.Rand, p polder.Polder, table [][]int) [][]int {
	table = copied(table)
	kind := r.Intn(3)
	for range r.Intn(4) {
		l := table[r.Intn(len(p.Days))]
		n := r.Intn(len(l))
		switch {
		case r.Intn(6) == 0:
			l[n] = never
		case kind == 0:
			l[n] += r.Intn(4)
		case kind == 1:
			l[n] = max(never, l[n]-r.Intn(4))
		default:
			l[n] = max(never, l[n]+r.Intn(9)-4)
		}
	}
	return table
}

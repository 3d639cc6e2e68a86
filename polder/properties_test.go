package polder_test

import (
	"math"
	"math/rand"
	"slices"
	"testing"

	"bybloem/api"
	"bybloem/polder"
)

func mustTable(t *testing.T, p polder.Polder) [][]int {
	t.Helper()
	table, e := polder.Table(p)
	if e != api.OK || len(table) != len(p.Days)+1 {
		t.Fatalf("Table of %v: %v, %v", p, table, e)
	}
	return table
}

func mustPlay(t *testing.T, p polder.Polder, start int, rains []int) followed {
	t.Helper()
	levels, amounts, cost, e := polder.Play(p, start, rains)
	if e != api.OK || len(levels) != len(p.Days) || len(amounts) != len(p.Days) {
		t.Fatalf("Play of %v from %d with %v: %v, %v, %d, %v", p, start, rains, levels, amounts, cost, e)
	}
	return followed{levels, amounts, cost, true}
}

// heldOf are the ranges of Hold, or nil.
func heldOf(t *testing.T, p polder.Polder) []polder.Range {
	t.Helper()
	ranges, e := polder.Hold(p)
	if e == api.ErrFail && ranges == nil {
		return nil
	}
	if e != api.OK || len(ranges) != len(p.Days) {
		t.Fatalf("Hold of %v: %v, %v", p, ranges, e)
	}
	return ranges
}

// P10.6

func TestWhateverItRains(t *testing.T) {
	eachHeld(t, 900, allShapes(), func(r *rand.Rand, p polder.Polder, most int) {
		for range 5 {
			start, rains := within(r, p.Start), randomRains(r, p)
			f := mustPlay(t, p, start, rains)
			level, cost := start, 0
			for day, amount := range f.amounts {
				level += rains[day] - p.Days[day].Seep - amount
				cost += modelPrice(p, day, amount)
				if f.levels[day] != level || !isKept(p, level) || !has(to(-p.Inlet, p.Pump), amount) {
					t.Fatalf("Play of %v from %d with %v: %v", p, start, rains, f)
				}
			}
			_, atWorst, e := polder.Best(p, 0, start)
			if f.cost != cost || cost > atWorst || atWorst > most || e != api.OK {
				t.Fatalf("Play of %v from %d with %v: %v, of %d, %d, %v at worst", p, start, rains, f, most, atWorst, e)
			}
		}
	})
}

// TestSeen changes the rain behind a day: the keeper does not see it.
func TestSeen(t *testing.T) {
	eachHeld(t, 900, allShapes(), func(r *rand.Rand, p polder.Polder, _ int) {
		start, rains, day := within(r, p.Start), randomRains(r, p), r.Intn(len(p.Days))
		other := append(slices.Clone(rains[:day]), randomRains(r, p)[day:]...)
		f, g := mustPlay(t, p, start, rains), mustPlay(t, p, start, other)
		if !slices.Equal(f.amounts[:day+1], g.amounts[:day+1]) || !slices.Equal(f.levels[:day], g.levels[:day]) {
			t.Fatalf("Play of %v from %d with %v: %v, with %v: %v", p, start, rains, f, other, g)
		}
	})
}

// TestTheWorst has the rain for which the best rule costs as much as the polder, and
// that no rule costs less for all rain.
func TestTheWorst(t *testing.T) {
	eachHeld(t, 900, allShapes(), func(r *rand.Rand, p polder.Polder, cost int) {
		costs(t, "any polder", p, cost)
		table := mustTable(t, p)
		if cost != slices.Max(table[0][p.Start.Lo-p.Low:p.Start.Hi-p.Low+1]) {
			t.Fatalf("Least of %v: %d, Table: %v", p, cost, table)
		}
	})
}

// P10.7

func TestNoLess(t *testing.T) {
	c := counts{}
	eachPolder(t, 3000, slices.Concat(small, middle), func(r *rand.Rand, p polder.Polder) {
		least := mustTable(t, p)
		proves(t, "any polder", p, least, true, true)
		table := changed(r, p, least)
		keeps, needs := polder.ProveKeeps(p, table), polder.ProveNeeds(p, table)
		c.add("keeps", keeps)
		c.add("needs", needs)
		for day, l := range table {
			for n, number := range l {
				cost := least[day][n]
				if needs && (number == never && cost != never || cost != never && number > cost) {
					t.Fatalf("ProveNeeds of %v, %v, and Table: %v", p, table, least)
				}
				if keeps && number != never && (cost == never || number < cost) {
					t.Fatalf("ProveKeeps of %v, %v, and Table: %v", p, table, least)
				}
			}
		}
	})
	for name, n := range c {
		if n < 300 {
			t.Errorf("%s: %d times", name, n)
		}
	}
}

// P10.8

func TestEnds(t *testing.T) {
	inner, all := 0, 0
	eachPolder(t, 900, allShapes(), func(r *rand.Rand, p polder.Polder) {
		for day, x := range heldOf(t, p) {
			all++
			if x.Lo > p.Low || x.Hi < p.High {
				inner++
			}
			for _, level := range []int{x.Lo - 1, x.Lo, x.Hi, x.Hi + 1, within(r, x), within(r, to(p.Low, p.High))} {
				if !isKept(p, level) {
					continue
				}
				_, _, e := polder.Best(p, day, level)
				if has(x, level) && e != api.OK || !has(x, level) && e != api.ErrFail {
					t.Fatalf("Hold of %v on the day %d: %v, Best at %d: %v", p, day, x, level, e)
				}
				if _, f := polder.Least(started(from(p, day), level, level)); f != e {
					t.Fatalf("Hold of %v on the day %d: %v, Least from %d on: %v", p, day, x, level, f)
				}
			}
		}
	})
	if min(inner, all-inner) < 300 {
		t.Errorf("%d days, of which %d have levels that cannot be held", all, inner)
	}
}

// P10.9

// easier makes a polder one that is easier to hold, in one way.
func easier(r *rand.Rand, p polder.Polder) polder.Polder {
	p = cloned(p)
	d := &p.Days[r.Intn(len(p.Days))]
	less := func(n *int) { *n -= r.Intn(*n + 1) }
	more := func(n *int, most int) { *n += r.Intn(min(most-*n, 4) + 1) }
	switch r.Intn(8) {
	case 0:
		more(&p.Pump, api.MaxDaily)
	case 1:
		more(&p.Inlet, api.MaxDaily)
	case 2:
		p.Low -= r.Intn(min(p.Low, 4) + 1)
	case 3:
		more(&p.High, api.MaxWater)
	case 4:
		d.Rain.Lo = within(r, d.Rain)
	case 5:
		d.Rain.Hi = within(r, d.Rain)
	case 6:
		less(&d.Out)
	case 7:
		less(&d.In)
	}
	return p
}

func TestEasier(t *testing.T) {
	c := counts{}
	eachPolder(t, 3000, allShapes(), func(r *rand.Rand, p polder.Polder) {
		now := easier(r, p)
		table, other := mustTable(t, p), mustTable(t, now)
		for day := range p.Days {
			for level := p.Low; level <= p.High; level++ {
				cost, less := table[day][level-p.Low], other[day][level-now.Low]
				if cost != never && (less == never || less > cost) {
					t.Fatalf("Table of %v: %v, of %v: %v", p, table, now, other)
				}
				c.add("now held", cost == never && less != never)
				c.add("for less", less < cost)
			}
		}
		cost, e := polder.Least(p)
		less, f := polder.Least(now)
		if e == api.OK && (f != api.OK || less > cost) {
			t.Fatalf("Least of %v: %d, of %v: %d, %v", p, cost, now, less, f)
		}
		if now.Low == p.Low && now.High == p.High { // what is enough when it is harder keeps
			proves(t, "a harder one", now, table, true, isSame(table, other))
			proves(t, "an easier one", p, other, isSame(table, other), true)
		}
	})
	for name, n := range c {
		if n < 300 {
			t.Errorf("%s: %d times", name, n)
		}
	}
}

// P10.10

func TestLater(t *testing.T) {
	eachPolder(t, 600, allShapes(), func(r *rand.Rand, p polder.Polder) {
		for day, x := range heldOf(t, p) {
			later := started(from(p, day), x.Lo, x.Lo+r.Intn(x.Hi-x.Lo+1))
			level := within(r, later.Start)
			_, cost, e := polder.Best(p, day, level)
			if e != api.OK {
				t.Fatalf("Best of %v, the day %d at %d: %v", p, day, level, e)
			}
			costs(t, "later", started(later, level, level), cost)
			tables(t, "later", later, mustTable(t, p)[day:])
			if most, e := polder.Least(later); e != api.OK || most < cost {
				t.Fatalf("Best of %v, the day %d at %d: %d, and Least of %v: %d, %v", p, day, level, cost, later, most, e)
			}
		}
	})
}

// P10.11

// mirrored is the polder turned upside down.
func mirrored(p polder.Polder) polder.Polder {
	turned := func(r polder.Range, most int) polder.Range { return to(most-r.Hi, most-r.Lo) }
	m := polder.Polder{Low: api.MaxWater - p.High, High: api.MaxWater - p.Low, Start: turned(p.Start, api.MaxWater), Pump: p.Inlet, Inlet: p.Pump}
	for _, d := range p.Days {
		m.Days = append(m.Days, polder.Day{Rain: turned(d.Rain, api.MaxRainfall), Seep: api.MaxRainfall - d.Seep, Out: d.In, In: d.Out})
	}
	return m
}

func TestMirrored(t *testing.T) {
	eachPolder(t, 900, allShapes(), func(r *rand.Rand, p polder.Polder) {
		m := mirrored(p)
		cost, e := polder.Least(p)
		if n, f := polder.Least(m); n != cost || f != e {
			t.Fatalf("Least of %v: %d, %v, of %v: %d, %v", p, cost, e, m, n, f)
		}
		table := mustTable(t, p)
		for _, l := range table {
			slices.Reverse(l)
		}
		tables(t, "mirrored", m, table)
		held, turned := heldOf(t, p), heldOf(t, m)
		if len(held) != len(turned) {
			t.Fatalf("Hold of %v: %v, of %v: %v", p, held, m, turned)
		}
		for day, x := range held {
			if turned[day] != to(api.MaxWater-x.Hi, api.MaxWater-x.Lo) {
				t.Fatalf("Hold of %v: %v, of %v: %v", p, held, m, turned)
			}
		}
	})
}

// R3

func TestNil(t *testing.T) {
	for _, days := range [][]polder.Day{nil, {}} {
		p := meadow()
		p.Days = days
		if e := polder.CheckPolder(p); e != api.ErrArg {
			t.Errorf("CheckPolder without days: %v", e)
		}
		proves(t, "no days", p, [][]int{make([]int, 11)}, false, false)
	}
	for _, rains := range [][]int{nil, {}} {
		askedPlay(t, meadow(), 15, rains, api.ErrRange)
	}
	for _, table := range [][][]int{nil, {}, {nil, nil, nil, nil}, {{}, {}, {}, {}}} {
		proves(t, "no table", meadow(), table, false, false)
	}
}

// R4

// roomy is a copy with room behind it, which no call may write into.
func roomy[T any](l []T) []T { return append(make([]T, 0, len(l)+40), l...) }

// isUntouched tells whether a roomy list is as it was, and all behind it, too.
func isUntouched[T comparable](l, before []T) bool {
	var zero T
	behind := func(x T) bool { return x != zero }
	return slices.Equal(l, before) && !slices.ContainsFunc(l[len(l):cap(l)], behind)
}

// spoil writes into a result, and behind it.
func spoil[T any](l []T, with T) {
	l = l[:cap(l)]
	for n := range l {
		l[n] = with
	}
}

func TestMemory(t *testing.T) {
	eachHeld(t, 300, allShapes(), func(r *rand.Rand, p polder.Polder, _ int) {
		before, start, rainsBefore := cloned(p), within(r, p.Start), randomRains(r, p)
		p.Days = roomy(p.Days)
		rains, tableBefore := roomy(rainsBefore), mustTable(t, p)
		var table [][]int
		for _, l := range tableBefore {
			table = append(table, roomy(l))
		}
		var results [2][][]int
		for n := range results {
			results[n] = allOf(t, p, start, rains, table)
			if !isUntouched(p.Days, before.Days) || !isUntouched(rains, rainsBefore) || !slices.EqualFunc(table, tableBefore, isUntouched) {
				t.Fatalf("the calls for %v, %v changed them", before, rainsBefore)
			}
		}
		if !isSame(results[0], results[1]) {
			t.Fatalf("the calls for %v return %v, and then %v", p, results[0], results[1])
		}
	})
}

// allOf returns what all calls return, in lists of its own, and writes into what
// they returned.
func allOf(t *testing.T, p polder.Polder, start int, rains []int, table [][]int) [][]int {
	t.Helper()
	cost, e := polder.Least(p)
	amount, least, f := polder.Best(p, len(p.Days)-1, p.High)
	all := [][]int{{int(polder.CheckPolder(p)), cost, int(e), amount, least, int(f)}}
	of := func(l []int) {
		all = append(all, slices.Clone(l))
		spoil(l, -9)
	}
	levels, amounts, cost, e := polder.Play(p, start, rains)
	of(levels)
	of(amounts)
	worst, worstRains, f := polder.Worst(p)
	of(worstRains)
	ranges, g := polder.Hold(p)
	for _, x := range ranges {
		all = append(all, []int{x.Lo, x.Hi})
	}
	spoil(ranges, to(-9, -9))
	for _, l := range mustTable(t, p) {
		of(l) // before the next list is looked at
	}
	if !polder.ProveKeeps(p, table) || !polder.ProveNeeds(p, table) {
		t.Errorf("the table %v of %v is not one", table, p)
	}
	return append(all, []int{cost, int(e), worst, int(f), int(g)})
}

// P1

// TestAnything has arguments of all kinds: each call ends, and does not panic.
func TestAnything(t *testing.T) {
	r := rand.New(rand.NewSource(12))
	all := append(beyond(0, 4), 0, 1, 1, 2, 3, 4, 5, 9, 10, 20, 21, 30, 31, 60, 61, 100, 101, 100000, math.MaxInt-1, math.MinInt+1, math.MaxInt/1000)
	number := func() int { return all[r.Intn(len(all))] }
	list := func() []int {
		var l []int
		for range r.Intn(13) {
			l = append(l, number())
		}
		return l
	}
	for range 20000 {
		wild := polder.Polder{Low: number(), High: number(), Start: to(number(), number()), Pump: number(), Inlet: number()}
		var table [][]int
		for range r.Intn(5) {
			wild.Days = append(wild.Days, polder.Day{Rain: to(number(), number()), Seep: number(), Out: number(), In: number()})
			table = append(table, list())
		}
		for _, p := range []polder.Polder{wild, ditch(to(0, 2), 0, 1, 0)} {
			polder.CheckPolder(p)
			polder.Hold(p)
			polder.Least(p)
			polder.Best(p, number(), number())
			polder.Play(p, number(), list())
			polder.Worst(p)
			polder.Table(p)
			polder.ProveKeeps(p, table)
			polder.ProveNeeds(p, table)
		}
	}
}

// TestGreatPolders has polders of all sizes up to the limits, in which each call ends
// soon.
func TestGreatPolders(t *testing.T) {
	for _, rain := range []polder.Range{to(0, api.MaxRainfall), to(5, 25), to(15, 15), to(api.MaxDaily, api.MaxDaily)} {
		p := started(full(), 20, 40)
		for n := range p.Days {
			p.Days[n].Rain, p.Days[n].Seep = rain, 15
		}
		for range 20 {
			cost, e := polder.Least(p)
			if e != api.OK {
				t.Fatalf("Least of %v: %v", p, e)
			}
			costs(t, "a great one", p, cost)
			tables(t, "a great one", p, mustTable(t, p))
		}
	}
}

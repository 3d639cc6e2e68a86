package store_test

import (
	"math"
	"math/rand"
	"slices"
	"testing"

	"bybloem/api"
	"bybloem/store"
)

func to(low, high int) store.Range { return store.Range{Lo: low, Hi: high} }

// barn is the store of the chapter's examples.
func barn() store.Store {
	return store.Store{
		Hours: 4, Start: to(0, 10), Leak: 100, Open: 800, Limit: 170, Times: []int{1, 2, 3},
		Crates: []store.Crate{
			{From: 0, To: 4, Breath: to(5, 10), Gas: to(40, 50), Suspect: true},
			{From: 1, To: 3, Breath: to(10, 20), Gas: to(90, 100), Suspect: true},
			{From: 0, To: 4, Breath: to(0, 5), Gas: to(0, 0)},
		},
	}
}

// cellar has one crate, of which all is known but whether it is bad.
func cellar() store.Store {
	return store.Store{
		Hours: 3, Start: to(100, 100), Open: 500, Limit: 200, Times: []int{0, 1, 2},
		Crates: []store.Crate{{To: 3, Breath: to(10, 10), Gas: to(60, 60), Suspect: true}},
	}
}

// empty is a store without crates.
func empty(start, leak, open, hours int) store.Store {
	s := store.Store{Hours: hours, Start: to(start, start), Leak: leak, Open: open, Limit: api.MaxAir}
	for hour := range min(hours, api.MaxTimes) {
		s.Times = append(s.Times, hour)
	}
	return s
}

// full has as much of all as a store can have.
func full() store.Store {
	most := to(api.MaxGas, api.MaxGas)
	s := empty(api.MaxGas, 1000, 1000, api.MaxHours)
	s.Crates = slices.Repeat([]store.Crate{{From: 0, To: api.MaxHours, Breath: most, Gas: most, Suspect: true}}, api.MaxShelf)
	return s
}

// countUp are known levels that rise by so much in each hour.
func countUp(hours, by, from int) []store.Range {
	var l []store.Range
	for hour := range hours {
		gas := from + by*(hour+1)
		l = append(l, to(gas, gas))
	}
	return l
}

// truthOf is a truth of a store with one crate.
func truthOf(start int, breath, gas []int) store.Truth {
	t := store.Truth{Start: start, Gas: gas}
	for _, n := range breath {
		t.Breath = append(t.Breath, []int{n})
	}
	return t
}

// middleOf is a truth of the barn with the crate 0 bad.
func middleOf() store.Truth {
	return store.Truth{Start: 7, Breath: [][]int{{5, 10, 0}, {10, 20, 5}, {7, 15, 3}, {8, 11, 1}}, Gas: []int{40, 50, 45, 44}}
}

// change is what makes a store another one.
type change func(s *store.Store)

func (c change) of(s store.Store) store.Store {
	s = cloned(s)
	c(&s)
	return s
}

// beyond are numbers that are not from low to high.
func beyond(low, high int) []int {
	return []int{low - 1, high + 1, math.MinInt, math.MaxInt}
}

// badStore is a store that no call takes, and why.
type badStore struct {
	s    store.Store
	want api.Errno
}

// badRanges are no ranges with ends from 0 to the most.
func badRanges(most int) []store.Range {
	l := []store.Range{to(1, 0), to(most, most-1), to(math.MinInt, math.MaxInt), to(math.MaxInt, math.MinInt)}
	for _, n := range beyond(0, most) {
		l = append(l, to(n, n), to(n, most), to(0, n))
	}
	return l
}

// invalidChanges make the barn no store.
func invalidChanges() []change {
	l := []change{
		func(s *store.Store) { s.Hours = 3 }, // with doors in the hour 3
		func(s *store.Store) { s.Hours = 0 },
		func(s *store.Store) { s.Leak, s.Open = -1, -1 },
		func(s *store.Store) { s.Leak, s.Open = 1001, 1001 },
		func(s *store.Store) { s.Crates[1].From = 4 }, // behind its To
		func(s *store.Store) { s.Crates[2].To, s.Crates[2].From = 23, 24 },
	}
	for _, n := range beyond(0, api.MaxHours) {
		l = append(l,
			func(s *store.Store) { s.Hours = n },
			func(s *store.Store) { s.Hours, s.Times = n, nil },
			func(s *store.Store) { s.Crates[0].From = n },
			func(s *store.Store) { s.Crates[2].To = n },
			func(s *store.Store) { s.Crates[2].From, s.Crates[2].To = n, n })
	}
	for _, n := range beyond(0, 800) {
		l = append(l, func(s *store.Store) { s.Leak = n })
	}
	for _, n := range beyond(100, 1000) {
		l = append(l, func(s *store.Store) { s.Open = n })
	}
	for _, n := range beyond(0, api.MaxAir) {
		l = append(l, func(s *store.Store) { s.Limit = n })
	}
	for _, n := range beyond(0, 3) {
		l = append(l, func(s *store.Store) { s.Times = []int{n} })
	}
	for _, times := range [][]int{{1, 1}, {2, 1}, {1, 3, 2}, {0, 1, 2, 3, 4}, {-1, 0}, {0, 1, 2, 3, 3}} {
		l = append(l, func(s *store.Store) { s.Times = times })
	}
	for _, r := range badRanges(api.MaxGas) {
		l = append(l,
			func(s *store.Store) { s.Start = r },
			func(s *store.Store) { s.Crates[0].Breath = r },
			func(s *store.Store) { s.Crates[2].Breath = r },
			func(s *store.Store) { s.Crates[1].Gas = r },
			func(s *store.Store) { s.Crates[2].Gas = r })
	}
	return l
}

func badStores() []badStore {
	var l []badStore
	for _, c := range invalidChanges() {
		l = append(l, badStore{c.of(barn()), api.ErrArg})
	}
	crates := func(s *store.Store) { s.Crates = make([]store.Crate, api.MaxShelf+1) }
	times := func(s *store.Store) { s.Times = make([]int, api.MaxTimes+1) }
	// The error that the table asks for first.
	for _, c := range []change{
		crates,
		times,
		func(s *store.Store) { crates(s); times(s) },
		func(s *store.Store) { crates(s); s.Hours = -1 },
		func(s *store.Store) { times(s); s.Start = to(2, 1) },
		func(s *store.Store) { s.Crates = slices.Repeat(s.Crates, 3) },
		func(s *store.Store) { s.Hours, s.Times = 24, []int{0, 1, 2, 3, 4, 5, 6, 7, 8, 9, 10} },
		func(s *store.Store) { s.Times = make([]int, 1000) },
	} {
		l = append(l, badStore{c.of(barn()), api.ErrLimit})
	}
	return l
}

// badDoors are no doors of the barn.
func badDoors() [][]int {
	l := [][]int{{0}, {0, 1}, {1, 1}, {2, 1}, {1, 3, 2}, {1, 2, 3, 3}, {1, 2, 3, 4}, {-1, 1}, make([]int, 100)}
	for _, n := range beyond(1, 3) {
		l = append(l, []int{n})
	}
	return l
}

// badTruths are no truths of the barn with the crate 0 bad.
func badTruths() []store.Truth {
	var l []store.Truth
	add := func(c func(x *store.Truth)) {
		x := middleOf()
		c(&x)
		l = append(l, x)
	}
	add(func(x *store.Truth) { *x = store.Truth{} })
	add(func(x *store.Truth) { x.Breath = nil })
	add(func(x *store.Truth) { x.Gas = nil })
	add(func(x *store.Truth) { x.Breath = x.Breath[:3] })
	add(func(x *store.Truth) { x.Gas = x.Gas[:3] })
	add(func(x *store.Truth) { x.Breath, x.Gas = x.Breath[:3], x.Gas[:3] })
	add(func(x *store.Truth) { x.Breath = append(x.Breath, x.Breath[3]) })
	add(func(x *store.Truth) { x.Gas = append(x.Gas, 44) })
	add(func(x *store.Truth) { x.Gas = append(x.Gas, 0) })
	for _, n := range beyond(0, 10) {
		add(func(x *store.Truth) { x.Start = n })
	}
	for _, hour := range []int{0, 3} {
		add(func(x *store.Truth) { x.Breath[hour] = nil })
		add(func(x *store.Truth) { x.Breath[hour] = x.Breath[hour][:2] })
		add(func(x *store.Truth) { x.Breath[hour] = append(x.Breath[hour], 5) })
		for n, c := range barn().Crates { // the crate 1 is not in the store then
			for _, i := range beyond(c.Breath.Lo, c.Breath.Hi) {
				add(func(x *store.Truth) { x.Breath[hour][n] = i })
			}
		}
		for _, i := range append(beyond(40, 50), 0) {
			add(func(x *store.Truth) { x.Gas[hour] = i })
		}
	}
	return l
}

// badReadings are no readings of the barn.
func badReadings() map[api.Errno][][]store.Reading {
	good := store.Reading{Hour: 3, Air: to(0, api.MaxAir)}
	bad := map[api.Errno][][]store.Reading{api.ErrLimit: {
		slices.Repeat([]store.Reading{good}, api.MaxHeard+1),
		slices.Repeat([]store.Reading{{Hour: 4, Air: to(1, 0)}}, api.MaxHeard+1),
		make([]store.Reading, 1000),
	}}
	add := func(x store.Reading) {
		bad[api.ErrArg] = append(bad[api.ErrArg], []store.Reading{x}, append(slices.Repeat([]store.Reading{good}, api.MaxHeard-1), x))
	}
	for _, n := range beyond(0, 3) {
		add(store.Reading{Hour: n, Air: to(0, 1)})
	}
	for _, r := range badRanges(api.MaxAir) {
		add(store.Reading{Hour: 0, Air: r})
	}
	return bad
}

// The calls that have no result.

func askedAir(t *testing.T, s store.Store, doors []int, bad int, truth store.Truth, want api.Errno) {
	t.Helper()
	if l, e := store.Air(s, doors, bad, truth); e != want || l != nil {
		t.Errorf("Air of %v, doors %v, %d bad, in %v: %v, %v, not %v", s, doors, bad, truth, l, e, want)
	}
}

func askedLevels(t *testing.T, s store.Store, doors []int, bad int, want api.Errno) {
	t.Helper()
	if l, e := store.Levels(s, doors, bad); e != want || l != nil {
		t.Errorf("Levels of %v, doors %v, %d bad: %v, %v, not %v", s, doors, bad, l, e, want)
	}
}

func askedClear(t *testing.T, s store.Store, doors []int, readings []store.Reading, want api.Errno) {
	t.Helper()
	if l, e := store.Clear(s, doors, readings); e != want || l != nil {
		t.Errorf("Clear of %v, doors %v, by %v: %v, %v, not %v", s, doors, readings, l, e, want)
	}
}

func bestFails(t *testing.T, name string, s store.Store) {
	t.Helper()
	if l, e := store.Best(s); e != api.ErrFail || l != nil {
		t.Errorf("%s: Best of %v: %v, %v", name, s, l, e)
	}
	if store.Safe(s, s.Times) || store.Safe(s, nil) {
		t.Errorf("%s: Safe of %v, doors %v or none", name, s, s.Times)
	}
}

func askedRiddle(t *testing.T, holes []int, bulbs []store.Range, want api.Errno) {
	t.Helper()
	if l, e := store.Riddle(holes, bulbs); e != want || l != nil {
		t.Errorf("Riddle of %v, %v: %v, %v, not %v", holes, bulbs, l, e, want)
	}
}

func askedPack(t *testing.T, holes []int, bulbs []store.Range, each int, want api.Errno) {
	t.Helper()
	if l, e := store.Pack(holes, bulbs, each); e != want || l != nil {
		t.Errorf("Pack of %v, %v, %d: %v, %v, not %v", holes, bulbs, each, l, e, want)
	}
}

// The calls that have one.

func air(t *testing.T, name string, s store.Store, doors []int, bad int, truth store.Truth, want ...int) {
	t.Helper()
	if l, e := store.Air(s, doors, bad, truth); e != api.OK || !slices.Equal(l, want) {
		t.Errorf("%s: Air of %v, doors %v, %d bad, in %v: %v, %v, not %v", name, s, doors, bad, truth, l, e, want)
	}
}

func levels(t *testing.T, name string, s store.Store, doors []int, bad int, want ...store.Range) {
	t.Helper()
	if l, e := store.Levels(s, doors, bad); e != api.OK || !slices.Equal(l, want) {
		t.Errorf("%s: Levels of %v, doors %v, %d bad: %v, %v, not %v", name, s, doors, bad, l, e, want)
	}
}

func safe(t *testing.T, name string, s store.Store, doors []int, want bool) {
	t.Helper()
	if store.Safe(s, doors) != want {
		t.Errorf("%s: Safe of %v, doors %v is not %v", name, s, doors, want)
	}
}

func best(t *testing.T, name string, s store.Store, want ...int) {
	t.Helper()
	if l, e := store.Best(s); e != api.OK || !slices.Equal(l, want) {
		t.Errorf("%s: Best of %v: %v, %v, not %v", name, s, l, e, want)
	}
	safe(t, name, s, want, true)
}

func leftBy(t *testing.T, name string, s store.Store, doors []int, readings []store.Reading, want ...int) {
	t.Helper()
	if l, e := store.Clear(s, doors, readings); e != api.OK || !slices.Equal(l, want) {
		t.Errorf("%s: Clear of %v, doors %v, by %v: %v, %v, not %v", name, s, doors, readings, l, e, want)
	}
}

func riddle(t *testing.T, name string, holes []int, bulbs []store.Range, each int, counts, crates []store.Range) {
	t.Helper()
	if l, e := store.Riddle(holes, bulbs); e != api.OK || !slices.Equal(l, counts) {
		t.Errorf("%s: Riddle of %v, %v: %v, %v, not %v", name, holes, bulbs, l, e, counts)
	}
	if l, e := store.Pack(holes, bulbs, each); e != api.OK || !slices.Equal(l, crates) {
		t.Errorf("%s: Pack of %v, %v, %d: %v, %v, not %v", name, holes, bulbs, each, l, e, crates)
	}
}

// P7.1

func TestCheckStore(t *testing.T) {
	for _, c := range []change{
		func(s *store.Store) {},
		func(s *store.Store) { *s = store.Store{} },
		func(s *store.Store) { *s = full() },
		func(s *store.Store) { s.Times = nil },
		func(s *store.Store) { s.Times = []int{0, 1, 2, 3} },
		func(s *store.Store) { s.Crates = nil },
		func(s *store.Store) { s.Leak, s.Open = 0, 0 },
		func(s *store.Store) { s.Leak = s.Open },
		func(s *store.Store) { s.Limit = 0 },
		func(s *store.Store) { s.Crates[0].From, s.Crates[0].To = 24, 24 }, // behind the hours of the store
		func(s *store.Store) { s.Crates[1].From, s.Crates[1].To = 2, 2 },
		func(s *store.Store) { s.Hours, s.Times = 0, nil },
	} {
		if s := c.of(barn()); store.CheckStore(s) != api.OK {
			t.Errorf("CheckStore of %v: %v", s, store.CheckStore(s))
		}
	}
	for _, x := range badStores() {
		if e := store.CheckStore(x.s); e != x.want {
			t.Errorf("CheckStore of %v: %v, not %v", x.s, e, x.want)
		}
	}
}

// TestRefusedStores has stores that no call takes, whatever is asked of them.
func TestRefusedStores(t *testing.T) {
	for _, x := range badStores() {
		for _, doors := range [][]int{nil, {1}, {2, 1}} {
			for _, bad := range []int{nobody, 0, 99} {
				askedAir(t, x.s, doors, bad, middleOf(), x.want)
				askedAir(t, x.s, doors, bad, store.Truth{}, x.want)
				askedLevels(t, x.s, doors, bad, x.want)
			}
			askedClear(t, x.s, doors, nil, x.want)
			askedClear(t, x.s, doors, make([]store.Reading, api.MaxHeard+1), x.want)
			askedClear(t, x.s, doors, []store.Reading{{Hour: -1}}, x.want)
			safe(t, "a bad store", x.s, doors, false)
		}
		if l, e := store.Best(x.s); e != x.want || l != nil {
			t.Errorf("Best of %v: %v, %v, not %v", x.s, l, e, x.want)
		}
	}
}

// TestRefusedDoors has doors that stand ahead of all but the store.
func TestRefusedDoors(t *testing.T) {
	s := barn()
	s.Limit = api.MaxAir
	for _, doors := range badDoors() {
		for _, bad := range []int{nobody, 0, 99} {
			askedAir(t, s, doors, bad, middleOf(), api.ErrRange)
			askedLevels(t, s, doors, bad, api.ErrRange)
		}
		askedClear(t, s, doors, nil, api.ErrRange)
		askedClear(t, s, doors, make([]store.Reading, api.MaxHeard+1), api.ErrRange)
		askedClear(t, s, doors, []store.Reading{{Hour: -1}}, api.ErrRange)
		askedClear(t, s, doors, []store.Reading{{Hour: 0, Air: to(api.MaxAir, api.MaxAir)}}, api.ErrRange)
		safe(t, "bad doors", s, doors, false)
	}
}

// TestRefusedBad has those who cannot be bad. The crate 2 is no suspect.
func TestRefusedBad(t *testing.T) {
	for _, bad := range append(beyond(-1, 2), 2) {
		askedAir(t, barn(), nil, bad, middleOf(), api.ErrRange)
		askedAir(t, barn(), []int{1}, bad, store.Truth{}, api.ErrRange)
		askedLevels(t, barn(), nil, bad, api.ErrRange)
		askedLevels(t, barn(), []int{1}, bad, api.ErrRange)
	}
	none := store.Truth{Start: 7, Breath: middleOf().Breath, Gas: []int{0, 0, 0, 0}}
	askedAir(t, barn(), nil, 2, none, api.ErrRange)
	askedAir(t, store.Store{}, nil, 0, store.Truth{}, api.ErrRange)
	askedLevels(t, store.Store{}, nil, 0, api.ErrRange)
}

func TestRefusedTruths(t *testing.T) {
	for _, truth := range badTruths() {
		askedAir(t, barn(), nil, 0, truth, api.ErrRange)
		askedAir(t, barn(), []int{1, 2, 3}, 0, truth, api.ErrRange)
	}
	// The gas of another one.
	for _, bad := range []int{nobody, 1} {
		askedAir(t, barn(), nil, bad, middleOf(), api.ErrRange)
	}
	one := store.Truth{Start: 7, Breath: middleOf().Breath, Gas: []int{0, 0, 0, 1}}
	askedAir(t, barn(), nil, nobody, one, api.ErrRange)
	askedAir(t, store.Store{}, nil, nobody, truthOf(0, nil, []int{0}), api.ErrRange)
	askedAir(t, store.Store{}, nil, nobody, truthOf(1, nil, nil), api.ErrRange)
	askedAir(t, store.Store{}, nil, nobody, store.Truth{Breath: [][]int{nil}}, api.ErrRange)
}

func TestAir(t *testing.T) {
	air(t, "the barn", barn(), nil, 0, middleOf(), 52, 132, 189, 224)
	air(t, "doors", barn(), []int{1, 3}, 0, middleOf(), 52, 96, 157, 85)
	none := store.Truth{Start: 7, Breath: middleOf().Breath, Gas: []int{0, 0, 0, 0}}
	air(t, "nobody is bad", barn(), nil, nobody, none, 12, 46, 67, 70)
	one := store.Truth{Start: 7, Breath: middleOf().Breath, Gas: []int{90, 91, 92, 100}}
	air(t, "gas of a crate that is not in the store", barn(), nil, 1, one, 12, 137, 241, 226)
	for _, x := range []struct {
		start, leak, open int
		doors             []int
		want              []int
	}{
		{100, 0, 0, []int{0, 1}, []int{100, 100, 100}},
		{100, 0, 1000, nil, []int{100, 100, 100}},
		{100, 0, 1000, []int{1}, []int{100, 0, 0}},
		{100, 1000, 1000, nil, []int{0, 0, 0}},
		{9, 100, 200, nil, []int{9, 9, 9}},
		{10, 100, 200, nil, []int{9, 9, 9}},
		{11, 100, 200, []int{0, 1}, []int{9, 8, 8}},
		{1, 999, 1000, nil, []int{1, 1, 1}},
		{1, 999, 1000, []int{2}, []int{1, 1, 0}},
		{100000, 333, 500, []int{0, 2}, []int{50000, 33350, 16675}},
		{99999, 1, 500, nil, []int{99900, 99801, 99702}},
		{1000, 1, 1, nil, []int{999, 999, 999}},
	} {
		s := empty(x.start, x.leak, x.open, 3)
		truth := store.Truth{Start: x.start, Breath: make([][]int, 3), Gas: make([]int, 3)}
		air(t, "no crates", s, x.doors, nobody, truth, x.want...)
	}
	// The document's example: 800 thousandths of 157 leave, and 135 come.
	s := store.Store{Hours: 1, Start: to(157, 157), Leak: 0, Open: 800, Times: []int{0}, Crates: []store.Crate{{To: 1, Breath: to(35, 35), Gas: to(100, 100), Suspect: true}}}
	air(t, "the document's example", s, []int{0}, 0, truthOf(157, []int{35}, []int{100}), 167)
	air(t, "no hours", store.Store{Start: to(3, 9)}, nil, nobody, store.Truth{Start: 4})
}

// TestAirOfCrates has a crate that comes and goes.
func TestAirOfCrates(t *testing.T) {
	for _, x := range []struct {
		from, to int
		want     []int
		bad      []int
	}{
		{0, 3, []int{1, 3, 7}, []int{11, 33, 77}},
		{0, 24, []int{1, 3, 7}, []int{11, 33, 77}},
		{0, 1, []int{1, 1, 1}, []int{11, 11, 11}},
		{1, 2, []int{0, 2, 2}, []int{0, 22, 22}},
		{2, 3, []int{0, 0, 4}, []int{0, 0, 44}},
		{2, 4, []int{0, 0, 4}, []int{0, 0, 44}},
		{0, 0, []int{0, 0, 0}, []int{0, 0, 0}},
		{1, 1, []int{0, 0, 0}, []int{0, 0, 0}},
		{3, 24, []int{0, 0, 0}, []int{0, 0, 0}},
	} {
		s := store.Store{Hours: 3, Crates: []store.Crate{{From: x.from, To: x.to, Breath: to(0, 9), Gas: to(0, 90), Suspect: true}}}
		air(t, "nobody is bad", s, nil, nobody, truthOf(0, []int{1, 2, 4}, []int{0, 0, 0}), x.want...)
		air(t, "it is bad", s, nil, 0, truthOf(0, []int{1, 2, 4}, []int{10, 20, 40}), x.bad...)
	}
}

// P7.2

func TestLevels(t *testing.T) {
	levels(t, "the example", barn(), nil, nobody, to(5, 24), to(20, 57), to(33, 87), to(35, 94))
	levels(t, "the example", barn(), nil, 0, to(45, 74), to(96, 152), to(142, 222), to(173, 265))
	levels(t, "the example", barn(), nil, 1, to(5, 24), to(110, 157), to(204, 277), to(189, 265))
	levels(t, "doors", barn(), []int{2}, 1, to(5, 24), to(110, 157), to(127, 167), to(120, 166))
	levels(t, "doors", barn(), []int{2}, nobody, to(5, 24), to(20, 57), to(19, 47), to(23, 58))
	levels(t, "all doors", cellar(), []int{0, 1, 2}, 0, to(120, 120), to(130, 130), to(135, 135))
	levels(t, "the first hour", cellar(), []int{0}, 0, to(120, 120), to(190, 190), to(260, 260))
	levels(t, "no hours", store.Store{Start: to(1, 2)}, nil, nobody)
	levels(t, "rounded down", store.Store{Hours: 2, Start: to(9, 21), Leak: 100, Open: 100}, nil, nobody, to(9, 19), to(9, 18))
	s := cellar()
	s.Hours, s.Times = 5, nil // the crate has left in the hour 3
	levels(t, "a crate that leaves", s, nil, 0, to(170, 170), to(240, 240), to(310, 310), to(310, 310), to(310, 310))
	most := full()
	most.Leak, most.Open = 0, 0
	levels(t, "above the greatest limit", most, most.Times, 3, countUp(api.MaxHours, 9*api.MaxGas, api.MaxGas)...)
	levels(t, "above the greatest limit", most, nil, nobody, countUp(api.MaxHours, 8*api.MaxGas, api.MaxGas)...)
}

// P7.3

func TestSafe(t *testing.T) {
	for _, x := range []struct {
		limit int
		doors []int
		want  bool
	}{
		{310, nil, true}, {309, nil, false},
		{240, []int{2}, true}, {239, []int{2}, false},
		{170, []int{1, 2}, true}, {169, []int{1, 2}, false},
		{135, []int{0, 1, 2}, true}, {134, []int{0, 1, 2}, false},
		{310, []int{3}, false}, {310, []int{1, 0}, false}, {310, []int{1, 1}, false},
	} {
		s := cellar()
		s.Limit = x.limit
		safe(t, "the cellar", s, x.doors, x.want)
	}
	for _, x := range []struct {
		limit    int
		suspects [2]bool
		want     bool
	}{
		{94, [2]bool{}, true}, {93, [2]bool{}, false},
		{265, [2]bool{true, false}, true}, {264, [2]bool{true, false}, false},
		{277, [2]bool{false, true}, true}, {276, [2]bool{false, true}, false},
		{277, [2]bool{true, true}, true}, {276, [2]bool{true, true}, false},
	} {
		s := barn()
		s.Limit = x.limit
		for n, is := range x.suspects {
			s.Crates[n].Suspect = is
		}
		safe(t, "whoever is bad", s, nil, x.want)
	}
	start := store.Store{Hours: 1, Start: to(50, 50), Leak: 500, Open: 500, Limit: 25}
	safe(t, "too much only at first", start, nil, true)
	start.Hours = 0
	safe(t, "no hours", start, nil, true)
	best(t, "no hours", start)
}

func TestBest(t *testing.T) {
	for _, x := range []struct {
		limit int
		want  []int
	}{{277, nil}, {276, []int{1}}, {170, []int{2}}, {166, []int{1, 2}}, {165, []int{1, 2}}} {
		s := barn()
		s.Limit = x.limit
		best(t, "the barn", s, x.want...)
	}
	for _, limit := range []int{160, 157 - 1, 0} {
		s := barn()
		s.Limit = limit
		bestFails(t, "the barn", s)
	}
	for _, x := range []struct {
		limit int
		want  []int
	}{{310, nil}, {309, []int{0}}, {200, []int{0, 1}}, {199, []int{0, 2}}, {170, []int{1, 2}}, {169, []int{0, 1, 2}}} {
		s := cellar()
		s.Limit = x.limit
		best(t, "the cellar", s, x.want...)
	}
	s := cellar()
	s.Limit = 134
	bestFails(t, "the cellar", s)
	s.Limit, s.Times = 310, nil
	best(t, "no times", s)
	s.Limit = 309
	bestFails(t, "no times", s)
	s.Times = []int{1}
	best(t, "one time", s, 1)
}

// TestNoSuspects has a store of which only the breath counts.
func TestNoSuspects(t *testing.T) {
	s := cellar()
	s.Crates[0].Suspect = false
	s.Limit = 130
	best(t, "nobody can be bad", s)
	s.Limit = 129
	best(t, "nobody can be bad", s, 0)
	s.Limit = 59
	bestFails(t, "nobody can be bad", s)
	leftBy(t, "nobody can be bad", s, nil, []store.Reading{{Hour: 2, Air: to(130, 130)}}, nobody)
	askedClear(t, s, nil, []store.Reading{{Hour: 2, Air: to(131, 310)}}, api.ErrFail)
}

// P7.4

func TestClear(t *testing.T) {
	barnBy := func(readings ...store.Reading) []store.Reading { return readings }
	for _, x := range []struct {
		name     string
		doors    []int
		readings []store.Reading
		want     []int
	}{
		{"no readings", nil, nil, []int{nobody, 0, 1}},
		{"the example", nil, barnBy(store.Reading{Hour: 1, Air: to(100, 120)}), []int{0, 1}},
		{"the example", nil, barnBy(store.Reading{Hour: 1, Air: to(100, 120)}, store.Reading{Hour: 3, Air: to(180, 186)}), []int{0}},
		{"any air", nil, barnBy(store.Reading{Hour: 2, Air: to(0, api.MaxAir)}), []int{nobody, 0, 1}},
		{"the greatest number of a range", nil, barnBy(store.Reading{Hour: 1, Air: to(57, 95)}), []int{nobody}},
		{"behind it", nil, barnBy(store.Reading{Hour: 1, Air: to(58, 96)}), []int{0}},
		{"the least number of a range", nil, barnBy(store.Reading{Hour: 1, Air: to(0, 110)}), []int{nobody, 0, 1}},
		{"before it", nil, barnBy(store.Reading{Hour: 1, Air: to(0, 109)}), []int{nobody, 0}},
		{"within all", nil, barnBy(store.Reading{Hour: 1, Air: to(120, 120)}), []int{0, 1}},
		{"around one", nil, barnBy(store.Reading{Hour: 3, Air: to(0, 172)}), []int{nobody}},
		{"the first hour", nil, barnBy(store.Reading{Hour: 0, Air: to(24, 24)}), []int{nobody, 1}},
		{"the last hour", nil, barnBy(store.Reading{Hour: 3, Air: to(190, 190)}), []int{0, 1}},
		{"with doors", []int{1, 2, 3}, barnBy(store.Reading{Hour: 3, Air: to(60, 61)}), []int{0}},
		{"two readings of an hour that cannot both be so", nil, barnBy(store.Reading{Hour: 2, Air: to(150, 150)}, store.Reading{Hour: 2, Air: to(151, 151)}), []int{0}},
	} {
		leftBy(t, x.name, barn(), x.doors, x.readings, x.want...)
	}
	many := slices.Repeat([]store.Reading{{Hour: 1, Air: to(100, 120)}}, api.MaxHeard)
	leftBy(t, "many readings", barn(), nil, many, 0, 1)
	for _, readings := range [][]store.Reading{
		{{Hour: 0, Air: to(30, 40)}},
		{{Hour: 1, Air: to(57, 57)}, {Hour: 0, Air: to(45, 50)}},
		{{Hour: 2, Air: to(278, api.MaxAir)}},
		{{Hour: 0, Air: to(0, 4)}},
	} {
		askedClear(t, barn(), nil, readings, api.ErrFail)
	}
	all := full()
	all.Leak, all.Open = 0, 0
	askedClear(t, all, nil, []store.Reading{{Hour: 23, Air: to(0, api.MaxAir)}}, api.ErrFail)
	leftBy(t, "all are alike", all, nil, []store.Reading{{Hour: 0, Air: to(10*api.MaxGas, 10*api.MaxGas)}}, 0, 1, 2, 3, 4, 5, 6, 7)
}

func TestRefusedReadings(t *testing.T) {
	for want, lists := range badReadings() {
		for _, readings := range lists {
			askedClear(t, barn(), nil, readings, want)
			askedClear(t, barn(), []int{1, 3}, readings, want)
		}
	}
	// None is left by the reading ahead of the bad one.
	askedClear(t, barn(), nil, []store.Reading{{Hour: 0, Air: to(30, 40)}, {Hour: 4, Air: to(0, 1)}}, api.ErrArg)
	askedClear(t, store.Store{}, nil, []store.Reading{{}}, api.ErrArg)
	leftBy(t, "no hours", store.Store{}, nil, nil, nobody)
}

// P7.5

// heap has the bulbs of the chapter's examples.
func heap() []store.Range {
	return []store.Range{to(85, 95), to(100, 100), to(108, 112), to(140, 150)}
}

// numbers are ranges of one number.
func numbers(l ...int) []store.Range {
	var ranges []store.Range
	for _, n := range l {
		ranges = append(ranges, to(n, n))
	}
	return ranges
}

func TestRiddle(t *testing.T) {
	riddle(t, "the example", []int{90, 110, 130}, heap(), 2, []store.Range{to(0, 1), to(1, 3), to(0, 1), to(1, 1)}, []store.Range{to(0, 1), to(1, 2), to(0, 1), to(1, 1)})
	riddle(t, "no holes", nil, heap(), 3, numbers(4), numbers(2))
	riddle(t, "no bulbs", []int{1, 1000}, nil, 3, numbers(0, 0, 0), numbers(0, 0, 0))
	riddle(t, "as great as a hole", []int{100}, numbers(100), 1, numbers(0, 1), numbers(0, 1))
	riddle(t, "a little less", []int{100}, numbers(99), 1, numbers(1, 0), numbers(1, 0))
	riddle(t, "up to a hole", []int{100}, []store.Range{to(90, 99), to(90, 100), to(100, 110)}, 9, []store.Range{to(1, 2), to(1, 2)}, numbers(1, 1))
	riddle(t, "across all holes", []int{10, 20, 30}, []store.Range{to(9, 30)}, 1, slices.Repeat([]store.Range{to(0, 1)}, 4), slices.Repeat([]store.Range{to(0, 1)}, 4))
	riddle(t, "across two holes", []int{10, 11, 12}, []store.Range{to(10, 11)}, 1, []store.Range{{}, to(0, 1), to(0, 1), {}}, []store.Range{{}, to(0, 1), to(0, 1), {}})
	riddle(t, "the least and the greatest", []int{1, 1000}, numbers(0, 1, 999, 1000, 1000), 2, numbers(1, 2, 2), numbers(1, 1, 1))
	most := slices.Repeat([]store.Range{to(0, 1000)}, api.MaxHeap)
	all := slices.Repeat([]store.Range{to(0, api.MaxHeap)}, api.MaxRiddles+1)
	riddle(t, "the most bulbs", []int{1, 2, 3, 4, 5, 6}, most, 1, all, all)
	riddle(t, "the most bulbs", []int{1, 2, 3, 4, 5, 1000}, most, api.MaxHeap, all, slices.Repeat([]store.Range{to(0, 1)}, api.MaxRiddles+1))
}

func TestPack(t *testing.T) {
	for _, x := range []struct{ bulbs, each, want int }{
		{0, 1, 0}, {0, 200, 0}, {1, 1, 1}, {1, 200, 1}, {7, 1, 7}, {7, 2, 4}, {8, 2, 4}, {9, 2, 5}, {7, 7, 1}, {7, 6, 2}, {200, 200, 1}, {200, 199, 2}, {200, 3, 67},
	} {
		bulbs := slices.Repeat(numbers(50), x.bulbs)
		riddle(t, "known bulbs", []int{50}, bulbs, x.each, numbers(0, x.bulbs), numbers(0, x.want))
		open := slices.Repeat([]store.Range{to(49, 50)}, x.bulbs)
		riddle(t, "open bulbs", []int{50}, open, x.each, []store.Range{to(0, x.bulbs), to(0, x.bulbs)}, []store.Range{to(0, x.want), to(0, x.want)})
	}
	mixed := append(slices.Repeat(numbers(50), 3), slices.Repeat([]store.Range{to(49, 50)}, 4)...)
	riddle(t, "some are known", []int{50}, mixed, 3, []store.Range{to(0, 4), to(3, 7)}, []store.Range{to(0, 2), to(1, 3)})
}

func TestRefusedRiddles(t *testing.T) {
	for _, x := range []struct {
		holes []int
		bulbs []store.Range
		want  api.Errno
	}{
		{make([]int, api.MaxRiddles+1), nil, api.ErrLimit},
		{[]int{1, 2, 3, 4, 5, 6, 7}, heap(), api.ErrLimit},
		{nil, make([]store.Range, api.MaxHeap+1), api.ErrLimit},
		{[]int{0}, make([]store.Range, api.MaxHeap+1), api.ErrLimit},
		{make([]int, api.MaxRiddles+1), []store.Range{to(2, 1)}, api.ErrLimit},
		{make([]int, 1000), make([]store.Range, 1000), api.ErrLimit},
		{[]int{5, 5}, heap(), api.ErrArg},
		{[]int{1, 7, 6}, heap(), api.ErrArg},
		{[]int{0, 1, 2}, heap(), api.ErrArg},
		{[]int{999, 1000, 1001}, heap(), api.ErrArg},
	} {
		askedRiddles(t, x.holes, x.bulbs, x.want)
	}
	for _, n := range beyond(1, api.MaxGirth) {
		askedRiddles(t, []int{n}, heap(), api.ErrArg)
	}
	for _, r := range badRanges(api.MaxGirth) {
		askedRiddles(t, nil, []store.Range{r}, api.ErrArg)
		askedRiddles(t, []int{90}, append(heap(), r), api.ErrArg)
	}
	for _, each := range append(beyond(1, api.MaxHeap), -3) {
		askedPack(t, []int{90}, heap(), each, api.ErrRange)
		askedPack(t, nil, nil, each, api.ErrRange)
	}
}

// askedRiddles asks for counts and crates, and for crates that cannot be.
func askedRiddles(t *testing.T, holes []int, bulbs []store.Range, want api.Errno) {
	t.Helper()
	askedRiddle(t, holes, bulbs, want)
	for _, each := range []int{1, 0, api.MaxHeap + 1} {
		askedPack(t, holes, bulbs, each, want)
	}
}

// P7.1 to P7.5

// TestModel holds the calls against the model.
func TestModel(t *testing.T) {
	eachStore(t, 700, small, func(r *rand.Rand, s store.Store) {
		var fewest []int
		found := false
		for _, doors := range modelDoors(s) {
			all := map[int][]store.Range{}
			for _, bad := range modelWho(s) {
				all[bad] = modelLevels(s, doors, bad)
				levels(t, "the model", s, doors, bad, all[bad]...)
			}
			isSafe := modelSafe(s, all)
			safe(t, "the model", s, doors, isSafe)
			if isSafe && !found {
				fewest, found = doors, true
			}
			truth := randomTruth(r, s, nobody)
			for _, right := range []bool{true, false} {
				readings := randomReadings(r, s, modelAir(s, doors, nobody, truth), 4, right)
				if left := modelClear(s, all, readings); len(left) > 0 {
					leftBy(t, "the model", s, doors, readings, left...)
				} else {
					askedClear(t, s, doors, readings, api.ErrFail)
				}
			}
		}
		if found {
			best(t, "the model", s, fewest...)
		} else {
			bestFails(t, "the model", s)
		}
	})
}

// TestModelTruths holds Air against the model.
func TestModelTruths(t *testing.T) {
	eachStore(t, 1000, allShapes(), func(r *rand.Rand, s store.Store) {
		for _, bad := range modelWho(s) {
			doors, truth := someOf(r, s.Times), randomTruth(r, s, bad)
			air(t, "the model", s, doors, bad, truth, modelAir(s, doors, bad, truth)...)
		}
	})
}

// TestModelHeaps holds the counts and crates against the model.
func TestModelHeaps(t *testing.T) {
	r := rand.New(rand.NewSource(10))
	for range 1500 {
		holes, bulbs := randomRiddles(r, 5, 12, 4)
		each := 1 + r.Intn(4)
		counts, crates := modelRiddle(holes, bulbs, each)
		riddle(t, "the model", holes, bulbs, each, counts, crates)
		if t.Failed() {
			return
		}
	}
}

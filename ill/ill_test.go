package ill_test

import (
	"math"
	"math/rand"
	"slices"
	"testing"

	"bybloem/api"
	"bybloem/ill"
)

// i, h and o are short for what is known of plants.
const i, h, o = ill.Ill, ill.Healthy, ill.Open

func look(plant, week int, yes bool) ill.Note {
	return ill.Note{Plant: plant, Week: week, Kind: ill.Look, Yes: yes}
}

func test(plant, week int, yes bool) ill.Note {
	return ill.Note{Plant: plant, Week: week, Kind: ill.Test, Yes: yes}
}

// field is the row of the chapter's examples.
func field() ill.Row {
	return ill.Row{
		Plants: 5,
		Weeks:  []ill.Week{{Flight: 1, Outside: true}, {Flight: 2}, {Flight: 0}, {Flight: 1}},
		Lag:    1, Show: 3, Old: 2,
		Clean: true,
		Dug:   make([]int, 5),
		Notes: []ill.Note{look(1, 4, false), test(3, 4, true), test(4, 2, false)},
	}
}

// bare is a row without weeks.
func bare(clean bool) ill.Row {
	return ill.Row{Plants: 3, Lag: 1, Clean: clean, Dug: make([]int, 3)}
}

// widest has as much of all as a row can have, and much that is open.
func widest() ill.Row {
	r := ill.Row{
		Plants: api.MaxRow,
		Weeks:  slices.Repeat([]ill.Week{{Flight: api.MaxRow, Outside: true}}, api.MaxFlights),
		Lag:    api.MaxFlights, Show: api.MaxFlights, Old: api.MaxFlights,
		Dug: make([]int, api.MaxRow),
	}
	for range api.MaxNotes {
		r.Notes = append(r.Notes, test(0, 1, false))
	}
	return r
}

// change is what makes a row another one.
type change func(r *ill.Row)

func (c change) of(r ill.Row) ill.Row {
	r = copyRow(r)
	c(&r)
	return r
}

// beyond are numbers that are not from low to high.
func beyond(low, high int) []int {
	return []int{low - 1, high + 1, math.MinInt, math.MaxInt}
}

// invalidChanges make the field no row.
func invalidChanges() []change {
	l := []change{
		func(r *ill.Row) { *r = ill.Row{} },
		func(r *ill.Row) { r.Plants = 4 },
		func(r *ill.Row) { r.Plants, r.Dug = 0, nil },
		func(r *ill.Row) { r.Plants, r.Dug, r.Notes = 0, nil, nil },
		func(r *ill.Row) { r.Plants, r.Dug = api.MaxRow+1, make([]int, api.MaxRow+1) },
		func(r *ill.Row) { r.Dug = nil },
		func(r *ill.Row) { r.Dug = make([]int, 4) },
		func(r *ill.Row) { r.Dug = make([]int, 6) },
		// A note of a plant that was dug before, or of any one without weeks.
		func(r *ill.Row) { r.Dug[3] = 3 },
		func(r *ill.Row) { r.Dug[4] = 1 },
		func(r *ill.Row) { r.Weeks = nil },
		func(r *ill.Row) { r.Weeks = r.Weeks[:3] },
	}
	for _, n := range beyond(1, api.MaxRow) {
		l = append(l, func(r *ill.Row) { r.Plants = n })
	}
	for _, n := range beyond(0, api.MaxRow) {
		l = append(l, func(r *ill.Row) { r.Weeks[0].Flight = n }, func(r *ill.Row) { r.Weeks[3].Flight = n })
	}
	for _, n := range beyond(1, api.MaxFlights) {
		l = append(l, func(r *ill.Row) { r.Lag = n })
	}
	for _, n := range beyond(0, api.MaxFlights) {
		l = append(l, func(r *ill.Row) { r.Show = n }, func(r *ill.Row) { r.Old = n })
	}
	for _, n := range beyond(0, 4) { // the weeks, and the plants
		l = append(l, func(r *ill.Row) { r.Dug[0] = n }, func(r *ill.Row) { r.Dug[4] = n }, func(r *ill.Row) { r.Notes[0].Plant = n }, func(r *ill.Row) { r.Notes[2].Plant = n })
	}
	for _, n := range beyond(1, 4) {
		l = append(l, func(r *ill.Row) { r.Notes[0].Week = n }, func(r *ill.Row) { r.Notes[2].Week = n })
	}
	for _, kind := range []uint8{2, math.MaxUint8} {
		l = append(l, func(r *ill.Row) { r.Notes[0].Kind = kind }, func(r *ill.Row) { r.Notes[2].Kind = kind })
	}
	return l
}

// badRow is a row that no call takes, and why.
type badRow struct {
	r    ill.Row
	want api.Errno
}

func badRows() []badRow {
	var l []badRow
	for _, c := range invalidChanges() {
		l = append(l, badRow{c.of(field()), api.ErrArg})
	}
	weeks, notes := make([]ill.Week, api.MaxFlights+1), make([]ill.Note, api.MaxNotes+1)
	for n := range notes {
		notes[n] = look(0, 1, false)
	}
	// The error that the table asks for first.
	for _, c := range []change{
		func(r *ill.Row) { r.Weeks = weeks },
		func(r *ill.Row) { r.Notes = notes },
		func(r *ill.Row) { *r = ill.Row{Weeks: weeks} },
		func(r *ill.Row) { *r = ill.Row{Notes: notes, Plants: -1, Lag: -1} },
		func(r *ill.Row) { r.Weeks[0].Flight, r.Notes = -1, notes },
	} {
		l = append(l, badRow{c.of(field()), api.ErrLimit})
	}
	return l
}

// sickRows cannot be, each for another reason.
func sickRows() []ill.Row {
	return []ill.Row{
		with(field(), look(3, 4, true)),
		with(field(), test(2, 1, true)),                                               // out of reach
		with(field(), test(0, 4, true), look(0, 1, true)),                             // before it was planted
		with(field(), test(2, 2, true), test(2, 4, false)),                            // seen as late as it may be missed
		with(field(), test(0, 3, false), test(4, 3, false)),                           // no source is left for what is ill
		change(func(r *ill.Row) { r.Lag = 4 }).of(field()),                            // no source for long enough
		change(func(r *ill.Row) { r.Dug[3] = 1 }).of(with(bare4(), test(3, 1, true))), // in reach once it was dug
	}
}

// bare4 is four plants of a clean stock that aphids reach in the second week.
func bare4() ill.Row {
	return ill.Row{Plants: 4, Weeks: []ill.Week{{}, {Flight: 1, Outside: true}}, Lag: 1, Clean: true, Dug: make([]int, 4)}
}

// TestNumbers holds the numbers of the kinds of notes, and of what is known.
func TestNumbers(t *testing.T) {
	if l := []uint8{ill.Look, ill.Test, ill.Ill, ill.Healthy, ill.Open}; !slices.Equal(l, []uint8{0, 1, 1, 2, 3}) {
		t.Errorf("the numbers are %v", l)
	}
}

// P3.1

func TestCheckRow(t *testing.T) {
	late := field()
	late.Dug = []int{1, 4, 0, 4, 2}
	for _, r := range []ill.Row{field(), late, widest(), bare(true), bare(false), {Plants: 1, Lag: 1, Dug: []int{0}}, {Plants: 1, Lag: 30, Show: 30, Old: 30, Dug: []int{1}, Weeks: []ill.Week{{}}}} {
		if e := ill.CheckRow(r); e != api.OK {
			t.Errorf("CheckRow of %v: %v", r, e)
		}
	}
	for _, r := range sickRows() {
		if e := ill.CheckRow(r); e != api.OK {
			t.Errorf("CheckRow of what cannot be, %v: %v", r, e)
		}
	}
	for _, x := range badRows() {
		if e := ill.CheckRow(x.r); e != x.want {
			t.Errorf("CheckRow of %v: %v", x.r, e)
		}
	}
}

// refused holds that no call has a result for a row.
func refused(t *testing.T, r ill.Row, want api.Errno) {
	t.Helper()
	if l, e := ill.First(r); e != want || l != nil {
		t.Errorf("First of %v: %v, %v", r, l, e)
	}
	if l, e := ill.Known(r); e != want || l != nil {
		t.Errorf("Known of %v: %v, %v", r, l, e)
	}
	if least, most, e := ill.Count(r); e != want || least != 0 || most != 0 {
		t.Errorf("Count of %v: %d, %d, %v", r, least, most, e)
	}
	if l, e := ill.Sample(r, 1); e != want || l != nil {
		t.Errorf("Sample of %v: %v, %v", r, l, e)
	}
	if ill.ProveSample(r, 1, nil) || ill.ProveSample(r, 1, []int{0, 1, 2, 3, 4}) {
		t.Errorf("ProveSample of %v", r)
	}
	if ill.ProveTruth(r, []int{1, 2, 2, 2, 1}) || ill.ProveTruth(r, nil) {
		t.Errorf("ProveTruth of %v", r)
	}
}

func TestRefused(t *testing.T) {
	for _, x := range badRows() {
		refused(t, x.r, x.want)
	}
	for _, r := range sickRows() {
		refused(t, r, api.ErrSick)
	}
}

func TestSampleErrors(t *testing.T) {
	for _, n := range beyond(0, api.MaxRow) {
		for _, r := range append(sickRows(), field(), bare(true)) {
			if l, e := ill.Sample(r, n); e != api.ErrRange || l != nil || ill.ProveSample(r, n, nil) {
				t.Errorf("Sample for %d of %v: %v, %v", n, r, l, e)
			}
		}
		for _, x := range badRows() {
			if l, e := ill.Sample(x.r, n); e != x.want || l != nil {
				t.Errorf("Sample for %d of %v: %v, %v", n, x.r, l, e)
			}
		}
	}
	for _, n := range []int{0, 3, api.MaxRow} {
		for _, r := range []ill.Row{bare(true), bare(false)} {
			if l, e := ill.Sample(r, n); e != api.ErrRange || l != nil || ill.ProveSample(r, n, nil) {
				t.Errorf("Sample for %d without weeks: %v, %v", n, l, e)
			}
		}
	}
}

func TestExamples(t *testing.T) {
	yes := with(field(), look(0, 4, true))
	for _, r := range []ill.Row{field(), yes} {
		if l, e := ill.First(r); e != api.OK || !slices.Equal(l, []int{1, 2, 2, 2, 1}) {
			t.Errorf("First of %v: %v, %v", r.Notes, l, e)
		}
	}
	if l, e := ill.Known(field()); e != api.OK || !slices.Equal(l, []uint8{o, o, o, i, o}) {
		t.Errorf("Known: %v, %v", l, e)
	}
	if least, most, e := ill.Count(field()); e != api.OK || least != 2 || most != 5 {
		t.Errorf("Count: %d, %d, %v", least, most, e)
	}
	for number, want := range map[int][]int{1: {0, 4}, 2: {0, 2}, 5: nil} {
		if l, e := ill.Sample(field(), number); e != api.OK || !slices.Equal(l, want) {
			t.Errorf("Sample for %d: %v, %v", number, l, e)
		}
	}
}

// TestPossible puts each condition of a truth to its ends.
func TestPossible(t *testing.T) {
	type rows struct {
		name  string
		r     ill.Row
		yes   [][]int
		never [][]int
	}
	weeks := func(flight ...int) []ill.Week {
		var l []ill.Week
		for _, n := range flight {
			l = append(l, ill.Week{Flight: n})
		}
		return l
	}
	outside := func(plants, flight int) ill.Row {
		return ill.Row{Plants: plants, Weeks: []ill.Week{{Flight: flight, Outside: true}}, Lag: 1, Clean: true, Dug: make([]int, plants)}
	}
	three := ill.Row{Plants: 3, Weeks: weeks(1, 1, 2), Lag: 2, Dug: make([]int, 3)}
	clean := three
	clean.Clean = true
	dug := copyRow(three)
	dug.Lag, dug.Dug = 1, []int{2, 2, 0}
	alone := ill.Row{Plants: 1, Weeks: weeks(10, 10), Lag: 1, Dug: []int{0}}
	for _, x := range []rows{
		{"planted ill", three, [][]int{{-1, -1, -1}, {0, 0, 0}, {0, -1, 0}}, nil},
		{"clean", clean, [][]int{{-1, -1, -1}}, [][]int{{0, -1, -1}, {0, 0, 0}, {-1, -1, 0}, {1, -1, -1}}},
		{"lag", three, [][]int{{0, 2, -1}, {0, 3, -1}, {0, 2, 3}}, [][]int{{0, 1, -1}, {-1, 2, -1}, {-1, 2, 2}}},
		{"flight", three, [][]int{{0, -1, 3}, {3, -1, 0}}, [][]int{{0, -1, 2}, {0, 2, 2}, {2, -1, 0}}},
		{"no source but itself", alone, [][]int{{0}, {-1}}, [][]int{{1}, {2}}},
		{"dug", dug, [][]int{{0, 1, 2}, {0, 2, -1}, {1, 0, 2}, {0, -1, -1}, {2, 0, 1}}, [][]int{{0, 3, -1}, {0, -1, 3}, {-1, 0, 3}, {3, -1, 0}}},
		{"outside, no flight", outside(4, 0), [][]int{{-1, -1, -1, -1}}, [][]int{{1, -1, -1, -1}, {-1, -1, -1, 1}}},
		{"outside, one place", outside(4, 1), [][]int{{1, -1, -1, 1}}, [][]int{{-1, 1, -1, -1}, {-1, -1, 1, -1}}},
		{"outside, two places", outside(5, 2), [][]int{{1, 1, -1, 1, 1}}, [][]int{{-1, -1, 1, -1, -1}}},
		{"outside, all places", outside(5, 3), [][]int{{1, 1, 1, 1, 1}}, [][]int{{0, -1, -1, -1, -1}}},
		{"not of the row", three, nil, [][]int{nil, {}, {0, 0}, {0, 0, 0, 0}, {-2, 0, 0}, {0, 0, 4}, {0, 0, math.MaxInt}, {math.MinInt, 0, 0}, {31, 31, 31}}},
	} {
		for _, l := range x.yes {
			if !ill.ProveTruth(x.r, l) {
				t.Errorf("%s: ProveTruth of %v is false", x.name, l)
			}
		}
		for _, l := range x.never {
			if ill.ProveTruth(x.r, l) {
				t.Errorf("%s: ProveTruth of %v is true", x.name, l)
			}
		}
	}
}

// TestNotes puts what a note says of the onset of a plant to its ends: the
// onsets from -1 to 5 of which it is so.
func TestNotes(t *testing.T) {
	for _, x := range []struct {
		note      ill.Note
		show, old int
		want      []int
	}{
		{look(0, 4, true), 2, 9, []int{0, 1, 2}},
		{look(0, 4, false), 2, 9, []int{-1, 3, 4, 5}},
		{look(0, 4, true), 0, 9, []int{0, 1, 2, 3, 4}},
		{look(0, 4, false), 0, 9, []int{-1, 5}},
		{look(0, 4, true), 4, 9, []int{0}},
		{look(0, 4, true), 5, 9, nil},
		{look(0, 4, false), 5, 9, []int{-1, 0, 1, 2, 3, 4, 5}},
		{look(0, 5, true), 30, 0, nil},
		{test(0, 4, true), 9, 2, []int{0, 1, 2, 3, 4}},
		{test(0, 4, false), 9, 2, []int{-1, 3, 4, 5}},
		{test(0, 4, true), 9, 0, []int{0, 1, 2, 3, 4}},
		{test(0, 4, false), 9, 0, []int{-1, 5}},
		{test(0, 4, false), 9, 4, []int{-1, 1, 2, 3, 4, 5}},
		{test(0, 4, false), 9, 5, []int{-1, 0, 1, 2, 3, 4, 5}},
		{test(0, 1, true), 9, 30, []int{0, 1}},
		{test(0, 1, false), 9, 30, []int{-1, 0, 1, 2, 3, 4, 5}},
	} {
		r := ill.Row{Plants: 1, Weeks: slices.Repeat([]ill.Week{{Flight: 1, Outside: true}}, 5), Lag: 1, Show: x.show, Old: x.old, Dug: []int{0}, Notes: []ill.Note{x.note}}
		for onset := -1; onset <= 5; onset++ {
			if want := slices.Contains(x.want, onset); ill.ProveTruth(r, []int{onset}) != want {
				t.Errorf("ProveTruth of the onset %d with %v, Show %d, Old %d is %v", onset, x.note, x.show, x.old, !want)
			}
		}
	}
}

// TestKnownRows has the earliest truth, what is known and the numbers of rows
// that are at some end.
func TestKnownRows(t *testing.T) {
	gone := with(field())
	gone.Notes = nil
	gone.Dug = []int{1, 3, 4, 0, 3}
	for _, x := range []struct {
		name        string
		r           ill.Row
		first       []int
		known       []uint8
		least, most int
	}{
		{"no weeks", bare(false), []int{0, 0, 0}, []uint8{o, o, o}, 0, 3},
		{"no weeks, clean", bare(true), []int{-1, -1, -1}, []uint8{h, h, h}, 0, 0},
		{"at the limits", widest(), []int{0, 0, 0, 0, 0, 0, 0, 0, 0, 0}, []uint8{o, o, o, o, o, o, o, o, o, o}, 0, 10},
		// Plant 0 is no source once it was dug; 2 and 3 stand in the last week.
		{"dug", gone, []int{1, -1, 2, 2, 1}, []uint8{o, h, o, o, o}, 0, 2},
		{"a note of a plant that was dug", with(gone, test(4, 3, true)), []int{1, -1, 2, 2, 1}, []uint8{o, h, o, o, i}, 0, 2},
		{"one of two sources", with(bare4(), test(1, 2, false)), []int{2, -1, -1, 2}, []uint8{o, h, h, o}, 0, 2},
	} {
		l, e := ill.First(x.r)
		if !slices.Equal(l, x.first) || e != api.OK || !ill.ProveTruth(x.r, x.first) {
			t.Errorf("%s: First: %v, %v", x.name, l, e)
		}
		known, e := ill.Known(x.r)
		if !slices.Equal(known, x.known) || e != api.OK {
			t.Errorf("%s: Known: %v, %v", x.name, known, e)
		}
		least, most, e := ill.Count(x.r)
		if least != x.least || most != x.most || e != api.OK {
			t.Errorf("%s: Count: %d, %d, %v", x.name, least, most, e)
		}
	}
}

// TestNotSamples holds that a list is a sample just if it rises, and its plants
// stand in the last week.
func TestNotSamples(t *testing.T) {
	r := field()
	r.Dug = []int{1, 4, 0, 0, 3}
	r.Notes = nil
	for _, x := range []struct {
		plants []int
		want   bool
	}{
		{nil, true}, {[]int{}, true}, {[]int{1}, true}, {[]int{1, 2, 3}, true},
		{[]int{0}, false}, {[]int{4}, false}, {[]int{1, 4}, false},
		{[]int{2, 1}, false}, {[]int{1, 1}, false}, {[]int{1, 3, 2}, false},
		{[]int{-1}, false}, {[]int{5}, false}, {[]int{3, 5}, false}, {[]int{math.MaxInt}, false}, {[]int{math.MinInt}, false},
		{slices.Repeat([]int{1}, 1000), false},
	} {
		if ill.ProveSample(r, api.MaxRow, x.plants) != x.want {
			t.Errorf("ProveSample of %v", x.plants)
		}
	}
}

// TestSampleRows has the samples of rows that are at some end.
func TestSampleRows(t *testing.T) {
	planted := ill.Row{Plants: 3, Weeks: make([]ill.Week, 2), Lag: 1, Old: 2, Dug: make([]int, 3)}
	young := change(func(r *ill.Row) { r.Old = 3 }).of(planted)
	dug := change(func(r *ill.Row) { r.Dug = []int{1, 2, 0} }).of(planted)
	full := with(planted, slices.Repeat([]ill.Note{test(1, 1, true)}, api.MaxNotes)...)
	for _, x := range []struct {
		name   string
		r      ill.Row
		number int
		want   []int
	}{
		{"each by itself", planted, 0, []int{0, 1, 2}},
		{"each by itself", planted, 1, []int{0, 1}},
		{"each by itself", planted, 2, []int{0}},
		{"each by itself", planted, 3, nil},
		{"nothing is old", young, 0, nil},
		{"those that stand", dug, 0, []int{1, 2}},
		{"those that stand", dug, 1, []int{1}},
		{"those that stand", dug, 2, nil},
		// A test of what is surely old cannot say no, so that nothing is unseen.
		{"what is surely old", full, 0, []int{1}},
		{"what is surely old", full, 2, []int{0}},
		{"what was tested", with(planted, test(0, 2, false)), 0, []int{1, 2}},
		{"what was tested", with(planted, test(0, 2, false), test(1, 2, false), test(2, 2, false)), 0, nil},
	} {
		if l, e := ill.Sample(x.r, x.number); !slices.Equal(l, x.want) || e != api.OK || !ill.ProveSample(x.r, x.number, x.want) {
			t.Errorf("%s: Sample for %d: %v, %v", x.name, x.number, l, e)
		}
	}
}

// P3.1 to P3.4

// TestModel holds the calls against the model.
func TestModel(t *testing.T) {
	eachSmall(t, 3000, func(_ *rand.Rand, x ill.Row, truths [][]int) {
		if len(truths) == 0 {
			if e := ill.CheckRow(x); e != api.OK {
				t.Errorf("CheckRow of %v: %v", x, e)
			}
			if len(x.Weeks) > 0 {
				refused(t, x, api.ErrSick)
			}
			return
		}
		if l, e := ill.First(x); e != api.OK || !slices.Equal(l, modelFirst(truths)) {
			t.Errorf("First of %v: %v, %v; not %v", x, l, e, modelFirst(truths))
		}
		if l, e := ill.Known(x); e != api.OK || !slices.Equal(l, modelKnown(truths)) {
			t.Errorf("Known of %v: %v, %v; not %v", x, l, e, modelKnown(truths))
		}
		wantLeast, wantMost := modelCount(x, truths)
		if least, most, e := ill.Count(x); e != api.OK || least != wantLeast || most != wantMost {
			t.Errorf("Count of %v: %d, %d, %v; not %d, %d", x, least, most, e, wantLeast, wantMost)
		}
	})
}

func TestModelTruths(t *testing.T) {
	eachSmall(t, 1000, func(_ *rand.Rand, x ill.Row, _ [][]int) {
		eachOnsets(x, func(onsets []int) {
			if want := modelPossible(x, onsets); ill.ProveTruth(x, onsets) != want {
				t.Errorf("ProveTruth of %v in %v is %v", onsets, x, !want)
			}
		})
	})
}

func TestModelSamples(t *testing.T) {
	eachSmall(t, 1500, func(_ *rand.Rand, x ill.Row, truths [][]int) {
		if len(truths) == 0 || len(x.Weeks) == 0 {
			return
		}
		all := samples(x)
		var unseen []int
		for _, sample := range all {
			unseen = append(unseen, modelUnseen(x, truths, sample))
		}
		for number := range api.MaxRow + 1 {
			isEnough := func(old int) bool { return old <= number }
			want := all[slices.IndexFunc(unseen, isEnough)]
			if l, e := ill.Sample(x, number); e != api.OK || !slices.Equal(l, want) {
				t.Errorf("Sample for %d of %v: %v, %v; not %v", number, x, l, e, want)
			}
			for n, sample := range all {
				if ill.ProveSample(x, number, sample) != isEnough(unseen[n]) {
					t.Errorf("ProveSample of %v for %d in %v, where %d are unseen", sample, number, x, unseen[n])
				}
			}
		}
	})
}

package ill_test

import (
	"math/rand"
	"slices"
	"testing"

	"bybloem/api"
	"bybloem/ill"
)

// The model looks at every list of onsets of a small row, and asks of each one
// what the chapter asks of a truth. Random rows, always the same ones, are done
// by both. Great rows, of which this would take too long, come with one truth.

func modelStands(r ill.Row, plant, week int) bool {
	return r.Dug[plant] == 0 || week <= r.Dug[plant]
}

func modelStandsLast(r ill.Row, plant int) bool { return modelStands(r, plant, len(r.Weeks)) }

// modelIll tells whether a plant with the onset became ill at least some weeks
// before the week.
func modelIll(onset, weeks, week int) bool { return onset >= 0 && onset <= week-weeks }

func modelSource(r ill.Row, onsets []int, plant, week int) bool {
	w := r.Weeks[week-1]
	if w.Outside && (plant < w.Flight || r.Plants-1-plant < w.Flight) {
		return true
	}
	for other, onset := range onsets {
		places := max(other-plant, plant-other)
		if other != plant && modelStands(r, other, week) && places <= w.Flight && modelIll(onset, r.Lag, week) {
			return true
		}
	}
	return false
}

// modelOnset asks whether the onset of a plant is as the first two conditions
// want it.
func modelOnset(r ill.Row, onsets []int, plant int) bool {
	switch week := onsets[plant]; {
	case week == 0:
		return !r.Clean
	case week > 0:
		return modelStands(r, plant, week) && modelSource(r, onsets, plant, week)
	}
	return true
}

func modelNote(r ill.Row, n ill.Note, onset int) bool {
	switch {
	case n.Kind == ill.Look:
		return n.Yes == modelIll(onset, r.Show, n.Week)
	case n.Yes:
		return modelIll(onset, 0, n.Week)
	}
	return !modelIll(onset, r.Old, n.Week)
}

func modelPossible(r ill.Row, onsets []int) bool {
	for plant := range onsets {
		if !modelOnset(r, onsets, plant) {
			return false
		}
	}
	for _, n := range r.Notes {
		if !modelNote(r, n, onsets[n.Plant]) {
			return false
		}
	}
	return true
}

// eachOnsets calls back with each list of onsets, possible or not. The list is
// the same one each time.
func eachOnsets(r ill.Row, back func([]int)) {
	onsets := make([]int, r.Plants)
	var choose func(plant int)
	choose = func(plant int) {
		if plant == r.Plants {
			back(onsets)
			return
		}
		for onset := -1; onset <= len(r.Weeks); onset++ {
			onsets[plant] = onset
			choose(plant + 1)
		}
	}
	choose(0)
}

func modelTruths(r ill.Row) [][]int {
	var l [][]int
	eachOnsets(r, func(onsets []int) {
		if modelPossible(r, onsets) {
			l = append(l, slices.Clone(onsets))
		}
	})
	return l
}

// modelFirst has the least onset of each plant that is ill in some truth.
func modelFirst(truths [][]int) []int {
	first := slices.Clone(truths[0])
	for _, onsets := range truths {
		for plant, onset := range onsets {
			if onset >= 0 && (first[plant] < 0 || onset < first[plant]) {
				first[plant] = onset
			}
		}
	}
	return first
}

func modelKnown(truths [][]int) []uint8 {
	var known []uint8
	for plant := range truths[0] {
		var is, isNot bool
		for _, onsets := range truths {
			is, isNot = is || onsets[plant] >= 0, isNot || onsets[plant] < 0
		}
		switch {
		case is && isNot:
			known = append(known, ill.Open)
		case is:
			known = append(known, ill.Ill)
		default:
			known = append(known, ill.Healthy)
		}
	}
	return known
}

// modelCases counts the plants that stand in the last week and became ill at
// least some weeks before it.
func modelCases(r ill.Row, onsets []int, weeks int) int {
	n := 0
	for plant, onset := range onsets {
		if modelStandsLast(r, plant) && modelIll(onset, weeks, len(r.Weeks)) {
			n++
		}
	}
	return n
}

func modelCount(r ill.Row, truths [][]int) (least, most int) {
	least = r.Plants
	for _, onsets := range truths {
		n := modelCases(r, onsets, 0)
		least, most = min(least, n), max(most, n)
	}
	return least, most
}

// modelUnseen returns the most old cases of the truths in which all plants of
// the sample were tested in the last week and said no; 0, if there is none.
func modelUnseen(r ill.Row, truths [][]int, sample []int) int {
	most := 0
	for _, onsets := range truths {
		isSaid := func(plant int) bool { return modelIll(onsets[plant], r.Old, len(r.Weeks)) }
		if !slices.ContainsFunc(sample, isSaid) {
			most = max(most, modelCases(r, onsets, r.Old))
		}
	}
	return most
}

// samples are all samples of a row, those with fewer plants first, and the
// least list first of those with as many.
func samples(r ill.Row) [][]int {
	var l [][]int
	for set := range 1 << r.Plants {
		var sample []int
		for plant := range r.Plants {
			if set>>plant&1 > 0 {
				sample = append(sample, plant)
			}
		}
		if !slices.ContainsFunc(sample, func(plant int) bool { return !modelStandsLast(r, plant) }) {
			l = append(l, sample)
		}
	}
	slices.SortFunc(l, func(a, b []int) int {
		if len(a) != len(b) {
			return len(a) - len(b)
		}
		return slices.Compare(a, b)
	})
	return l
}

// copyRow copies all lists of a row.
func copyRow(r ill.Row) ill.Row {
	r.Weeks, r.Dug, r.Notes = slices.Clone(r.Weeks), slices.Clone(r.Dug), slices.Clone(r.Notes)
	return r
}

// with is a copy of a row that has more notes.
func with(r ill.Row, notes ...ill.Note) ill.Row {
	r = copyRow(r)
	r.Notes = append(r.Notes, notes...)
	return r
}

// shape is how great a random row is at most.
type shape struct{ plants, weeks, notes int }

// randomRow is a row without notes.
func randomRow(r *rand.Rand, s shape) ill.Row {
	x := ill.Row{
		Plants: 1 + r.Intn(s.plants),
		Lag:    1 + r.Intn(min(3, max(1, s.weeks))),
		Show:   r.Intn(s.weeks/2 + 2),
		Old:    r.Intn(s.weeks/2 + 2),
		Clean:  r.Intn(2) == 0,
	}
	for range r.Intn(s.weeks + 1) {
		x.Weeks = append(x.Weeks, ill.Week{Flight: r.Intn(4), Outside: r.Intn(4) == 0})
	}
	for range x.Plants {
		dug := 0
		if r.Intn(4) == 0 {
			dug = r.Intn(len(x.Weeks) + 1)
		}
		x.Dug = append(x.Dug, dug)
	}
	return x
}

// randomTruth lets aphids fly through a row that has no notes.
func randomTruth(r *rand.Rand, x ill.Row) []int {
	onsets := slices.Repeat([]int{-1}, x.Plants)
	for week := range len(x.Weeks) + 1 {
		for plant, onset := range onsets {
			onsets[plant] = week
			if onset >= 0 || r.Intn(3) == 0 || !modelOnset(x, onsets, plant) {
				onsets[plant] = onset
			}
		}
	}
	return onsets
}

// randomNote is a note that the row can have; in the truth, it may say the
// wrong thing.
func randomNote(r *rand.Rand, x ill.Row) (ill.Note, bool) {
	if len(x.Weeks) == 0 {
		return ill.Note{}, false
	}
	plant := r.Intn(x.Plants)
	weeks := len(x.Weeks)
	if dug := x.Dug[plant]; dug > 0 {
		weeks = dug
	}
	return ill.Note{Plant: plant, Week: 1 + r.Intn(weeks), Kind: uint8(r.Intn(2)), Yes: r.Intn(2) == 0}, true
}

// trueNote is a note that is so in the truth.
func trueNote(r *rand.Rand, x ill.Row, onsets []int) (ill.Note, bool) {
	n, ok := randomNote(r, x)
	if ok && !modelNote(x, n, onsets[n.Plant]) {
		n.Yes = !n.Yes
	}
	return n, ok
}

// noted is a random row with one of its possible truths.
func noted(r *rand.Rand, s shape) (ill.Row, []int) {
	x := randomRow(r, s)
	onsets := randomTruth(r, x)
	notes := r.Intn(s.notes + 1)
	if r.Intn(2) == 0 {
		notes = min(notes, 3) // with many notes nothing is open
	}
	for range notes {
		if n, ok := trueNote(r, x, onsets); ok {
			x.Notes = append(x.Notes, n)
		}
	}
	return x, onsets
}

// small are shapes of which each truth can be looked at.
var small = []shape{{plants: 4, weeks: 4, notes: 5}, {plants: 7, weeks: 1, notes: 4}, {plants: 3, weeks: 8, notes: 5}, {plants: 5, weeks: 2, notes: 4}}

var great = shape{plants: api.MaxRow, weeks: api.MaxFlights, notes: api.MaxNotes}

// eachSmall calls a test with random rows of which some cannot be.
func eachSmall(t *testing.T, n int, test func(r *rand.Rand, x ill.Row, truths [][]int)) {
	t.Helper()
	r := rand.New(rand.NewSource(3))
	for i := range n {
		x, _ := noted(r, small[i%len(small)])
		if wrong, ok := randomNote(r, x); ok && r.Intn(3) == 0 {
			x = with(x, wrong)
		}
		test(r, x, modelTruths(x))
		if t.Failed() {
			return
		}
	}
}

// eachRow calls a test with random rows, small and great ones, and a truth of
// each that is possible.
func eachRow(t *testing.T, n int, test func(r *rand.Rand, x ill.Row, onsets []int)) {
	t.Helper()
	r := rand.New(rand.NewSource(4))
	for i := range n {
		s := great
		if i%2 == 0 {
			s = small[i/2%len(small)]
		}
		x, onsets := noted(r, s)
		if !modelPossible(x, onsets) {
			t.Fatalf("the truth %v of %v is not possible", onsets, x)
		}
		test(r, x, onsets)
		if t.Failed() {
			return
		}
	}
}

// TestRandomRows asks whether the random rows have what the other tests are
// about at all.
func TestRandomRows(t *testing.T) {
	var sick, partly, samplesOf2 int
	known := map[uint8]int{}
	eachSmall(t, 300, func(_ *rand.Rand, x ill.Row, truths [][]int) {
		if len(truths) == 0 {
			sick++
			return
		}
		for _, k := range modelKnown(truths) {
			known[k]++
		}
		if least, most := modelCount(x, truths); 0 < least && least < most {
			partly++
		}
		if l, _ := ill.Sample(x, 0); len(l) > 1 {
			samplesOf2++
		}
	})
	if min(sick, partly, samplesOf2, known[ill.Ill], known[ill.Healthy], known[ill.Open]) < 20 {
		t.Errorf("small rows: sick %d, with a range %d, with a sample of two %d, known %v", sick, partly, samplesOf2, known)
	}
	known = map[uint8]int{}
	eachRow(t, 300, func(_ *rand.Rand, x ill.Row, _ []int) {
		l, _ := ill.Known(x)
		for _, k := range l {
			known[k]++
		}
	})
	if min(known[ill.Ill], known[ill.Healthy], known[ill.Open]) < 100 {
		t.Errorf("great rows: known %v", known)
	}
}

package season_test

import (
	"math"
	"math/rand"
	"slices"
	"testing"

	"bybloem/api"
	"bybloem/season"
)

// The model looks at every truth of a small year, and asks of all those that
// agree with the sights what the chapter asks. Random years, always the same
// ones, are done by both. Great years, of which this would take too long, come
// with one truth.

// modelSum is the sum of the warmth up to the week.
func modelSum(truth []int, week int) int {
	sum := 0
	for _, warmth := range truth[:week+1] {
		sum += warmth
	}
	return sum
}

// modelWeek is the first week up to which the sum is at least so much.
func modelWeek(truth []int, heat int) int {
	for week := range truth {
		if modelSum(truth, week) >= heat {
			return week
		}
	}
	return len(truth)
}

func modelOpens(y season.Year, kind int, truth []int) int {
	return modelWeek(truth, y.Kinds[kind].Bloom)
}

func modelRipens(y season.Year, kind int, truth []int) int {
	return modelWeek(truth, y.Kinds[kind].Bloom+y.Kinds[kind].Ripe)
}

func modelAgrees(y season.Year, truth []int, sights []season.Sight) bool {
	for _, s := range sights {
		if s.Open != (modelOpens(y, s.Kind, truth) <= s.Week) {
			return false
		}
	}
	return true
}

// modelTruths returns all truths that agree with the sights.
func modelTruths(y season.Year, sights []season.Sight) [][]int {
	truths := [][]int{nil}
	for _, w := range y.Weeks {
		var longer [][]int
		for _, truth := range truths {
			for warmth := w.Lo; warmth <= w.Hi; warmth++ {
				longer = append(longer, slices.Concat(truth, []int{warmth}))
			}
		}
		truths = longer
	}
	disagrees := func(truth []int) bool { return !modelAgrees(y, truth, sights) }
	return slices.DeleteFunc(truths, disagrees)
}

// opened are the weeks in which the kinds open, for kinds that the year has not 0.
type opened [api.MaxKinds]int

func modelOpened(y season.Year, truth []int) opened {
	var o opened
	for kind := range y.Kinds {
		o[kind] = modelOpens(y, kind, truth)
	}
	return o
}

// modelAllOpened has what is in these truths, each once.
func modelAllOpened(y season.Year, truths [][]int) map[opened]bool {
	all := map[opened]bool{}
	for _, truth := range truths {
		all[modelOpened(y, truth)] = true
	}
	return all
}

// modelCan returns the weeks in which the fields of the kind can be headed, or
// just -1 if they are not due.
func modelCan(y season.Year, kind, opens int) []int {
	var weeks []int
	for n := range y.Kinds[kind].Head {
		weeks = append(weeks, opens+1+n)
	}
	if opens == len(y.Weeks) || len(weeks) == 0 || slices.Max(weeks) >= len(y.Weeks) {
		return []int{-1}
	}
	return weeks
}

func modelHands(fields []season.Field, weeks []int) int {
	rows := map[int]int{}
	most := 0
	for n, week := range weeks {
		if week >= 0 {
			rows[week] += fields[n].Rows
			most = max(most, rows[week])
		}
	}
	return most
}

// modelFewest looks at all headings.
func modelFewest(y season.Year, o opened, fields []season.Field) int {
	fewest := api.MaxFields*api.MaxRows + 1
	weeks := make([]int, len(fields))
	var give func(n int)
	give = func(n int) {
		if n == len(fields) {
			fewest = min(fewest, modelHands(fields, weeks))
			return
		}
		kind := fields[n].Kind
		for _, week := range modelCan(y, kind, o[kind]) {
			weeks[n] = week
			give(n + 1)
		}
	}
	give(0)
	return fewest
}

// modelEnough returns the least and the greatest number that is the fewest
// hands.
func modelEnough(y season.Year, all map[opened]bool, fields []season.Field) season.Range {
	r := season.Range{Lo: api.MaxFields*api.MaxRows + 1}
	for o := range all {
		n := modelFewest(y, o, fields)
		r = season.Range{Lo: min(r.Lo, n), Hi: max(r.Hi, n)}
	}
	return r
}

func modelFlowers(y season.Year, all map[opened]bool, kind int) (may, surely []int) {
	for week := range y.Weeks {
		times := 0
		for o := range all {
			if o[kind] <= week && week < o[kind]+y.Kinds[kind].Weeks {
				times++
			}
		}
		if times > 0 {
			may = append(may, week)
		}
		if times == len(all) {
			surely = append(surely, week)
		}
	}
	return may, surely
}

// modelRange is the range of a number of all these truths.
func modelRange(truths [][]int, number func(truth []int) int) season.Range {
	first := number(truths[0])
	r := season.Range{Lo: first, Hi: first}
	for _, truth := range truths {
		n := number(truth)
		r = season.Range{Lo: min(r.Lo, n), Hi: max(r.Hi, n)}
	}
	return r
}

func modelLeft(y season.Year, truths [][]int) []season.Range {
	var l []season.Range
	for week := range y.Weeks {
		l = append(l, modelRange(truths, func(truth []int) int { return modelSum(truth, week) }))
	}
	return l
}

func modelSpans(y season.Year, truths [][]int) []season.Span {
	var l []season.Span
	for kind := range y.Kinds {
		l = append(l, season.Span{
			Open: modelRange(truths, func(truth []int) int { return modelOpens(y, kind, truth) }),
			Ripe: modelRange(truths, func(truth []int) int { return modelRipens(y, kind, truth) }),
		})
	}
	return l
}

// known is a sum, and the weeks in which the kinds opened on the way to it: the
// number of the year's weeks for those that have not.
type known struct {
	sum int
	opened
}

// modelKnown returns what can be known at the end of a year in which there are
// too many truths to look at each of them.
func modelKnown(y season.Year, sights []season.Sight) (sums season.Range, all map[opened]bool) {
	first := known{}
	for kind := range y.Kinds {
		first.opened[kind] = len(y.Weeks)
	}
	now := map[known]bool{first: true}
	for week, w := range y.Weeks {
		next := map[known]bool{}
		for k := range now {
			for warmth := w.Lo; warmth <= w.Hi; warmth++ {
				if n := k.after(y, week, warmth); n.agrees(week, sights) {
					next[n] = true
				}
			}
		}
		now = next
	}
	sums, all = season.Range{Lo: math.MaxInt}, map[opened]bool{}
	for k := range now {
		sums = season.Range{Lo: min(sums.Lo, k.sum), Hi: max(sums.Hi, k.sum)}
		all[k.opened] = true
	}
	return sums, all
}

func (k known) after(y season.Year, week, warmth int) known {
	k.sum += warmth
	for kind, x := range y.Kinds {
		if k.sum >= x.Bloom && k.opened[kind] > week {
			k.opened[kind] = week
		}
	}
	return k
}

func (k known) agrees(week int, sights []season.Sight) bool {
	for _, s := range sights {
		if s.Week == week && s.Open != (k.opened[s.Kind] <= week) {
			return false
		}
	}
	return true
}

// shape is how great a random year is at most: its weeks, its kinds, the warmth
// of a week, and how much is not known of it.
type shape struct{ weeks, kinds, warmth, open int }

// small are shapes of which each truth can be looked at, and middle ones those
// of which it is enough to know sums and weeks.
var (
	small  = []shape{{6, 3, 5, 3}, {8, 5, 3, 2}, {9, 3, 2, 1}, {6, 5, 20, 2}, {3, 4, 12, 9}, {1, 5, 5, 5}, {8, 4, 2, 2}}
	middle = []shape{{20, 2, 2, 1}, {12, 3, 4, 3}, {20, 1, 5, 4}, {10, 5, 4, 2}}
	great  = []shape{{api.MaxCalendar, api.MaxKinds, api.MaxWarmth, api.MaxWarmth}, {api.MaxCalendar, api.MaxKinds, 12, 6}, {10, 3, 40, 40}, {api.MaxCalendar, 2, 9, 9}}
)

// randomYear is a year with one of its truths. What its kinds need is near to
// sums of the truth.
func randomYear(r *rand.Rand, s shape) (y season.Year, truth []int) {
	for range max(1+r.Intn(s.weeks), 1+r.Intn(s.weeks)) {
		w := season.Range{Lo: r.Intn(s.warmth + 1)}
		switch r.Intn(6) {
		case 0:
			w.Lo = 0
		case 1:
			w = season.Range{}
		}
		w.Hi = w.Lo
		if r.Intn(4) > 0 {
			w.Hi = min(w.Lo+r.Intn(s.open+1), api.MaxWarmth)
		}
		y.Weeks = append(y.Weeks, w)
	}
	truth = randomTruth(r, y)
	near := func() int {
		return modelSum(truth, r.Intn(len(truth))) + r.Intn(s.open+2) - s.open/2
	}
	for range 1 + r.Intn(s.kinds) {
		k := season.Kind{Weeks: 1 + r.Intn(3), Head: min(r.Intn(api.MaxHead+1), 1+r.Intn(4)), Bloom: max(1, near())}
		if r.Intn(6) == 0 {
			k.Weeks = 1 + r.Intn(api.MaxCalendar)
		}
		if r.Intn(4) > 0 {
			k.Ripe = max(0, near()-k.Bloom)
		}
		y.Kinds = append(y.Kinds, k)
	}
	return y, truth
}

func randomTruth(r *rand.Rand, y season.Year) []int {
	var truth []int
	chance := r.Intn(3)
	for _, w := range y.Weeks {
		warmth := w.Lo + r.Intn(w.Hi-w.Lo+1)
		switch {
		case chance == 0 && r.Intn(4) > 0:
			warmth = w.Lo
		case chance == 1 && r.Intn(4) > 0:
			warmth = w.Hi
		}
		truth = append(truth, warmth)
	}
	return truth
}

// randomSights are so many sights at most, all of them so in the truth.
func randomSights(r *rand.Rand, y season.Year, truth []int, most int) []season.Sight {
	var l []season.Sight
	for range r.Intn(most + 1) {
		s := season.Sight{Kind: r.Intn(len(y.Kinds)), Week: r.Intn(len(y.Weeks))}
		s.Open = modelOpens(y, s.Kind, truth) <= s.Week
		l = append(l, s)
	}
	return l
}

func randomFields(r *rand.Rand, y season.Year) []season.Field {
	var l []season.Field
	most := 1 + r.Intn(9)
	if r.Intn(3) == 0 {
		most = api.MaxRows
	}
	for range max(r.Intn(api.MaxFields+1), r.Intn(api.MaxFields+1)) {
		l = append(l, season.Field{Kind: r.Intn(len(y.Kinds)), Rows: 1 + r.Intn(most)})
	}
	return l
}

// eachSmall calls a test with random years, sights with which mostly some truth
// agrees, and all truths that do.
func eachSmall(t *testing.T, n int, test func(r *rand.Rand, y season.Year, sights []season.Sight, truths [][]int)) {
	t.Helper()
	r := rand.New(rand.NewSource(4))
	for i := range n {
		y, truth := randomYear(r, small[i%len(small)])
		sights := randomSights(r, y, truth, 3)
		if len(sights) > 0 && r.Intn(3) == 0 {
			s := &sights[r.Intn(len(sights))]
			s.Open = !s.Open
		}
		test(r, y, sights, modelTruths(y, sights))
		if t.Failed() {
			return
		}
	}
}

// eachYear calls a test with random years, small and great ones, and a truth and
// sights that agree.
func eachYear(t *testing.T, n int, test func(r *rand.Rand, y season.Year, truth []int, sights []season.Sight)) {
	t.Helper()
	r := rand.New(rand.NewSource(5))
	shapes := slices.Concat(great, middle, small)
	for i := range n {
		y, truth := randomYear(r, shapes[i%len(shapes)])
		most := 4
		if r.Intn(4) == 0 {
			most = api.MaxSights - 2 // some tests add two
		}
		test(r, y, truth, randomSights(r, y, truth, most))
		if t.Failed() {
			return
		}
	}
}

// TestRandomYears asks whether the random years have what the other tests are
// about at all.
func TestRandomYears(t *testing.T) {
	counts := map[string]int{}
	count := func(name string, is bool) {
		if is {
			counts[name]++
		} else {
			counts["not "+name]++
		}
	}
	eachSmall(t, 6000, func(r *rand.Rand, y season.Year, sights []season.Sight, truths [][]int) {
		count("known", len(truths) > 0)
		if len(truths) == 0 {
			return
		}
		count("told less without sights", !slices.Equal(modelLeft(y, truths), modelLeft(y, modelTruths(y, nil))))
		all := modelAllOpened(y, truths)
		for kind, s := range modelSpans(y, truths) {
			count("open in a week for sure", s.Open.Lo == s.Open.Hi)
			count("open never, perhaps", s.Open.Lo < s.Open.Hi && s.Open.Hi == len(y.Weeks))
			count("ripe later", s.Ripe.Lo > s.Open.Lo && s.Ripe.Lo < len(y.Weeks))
			may, surely := modelFlowers(y, all, kind)
			count("in flower for sure", len(surely) > 0)
			count("in flower, perhaps", len(may) > len(surely))
			count("in flower with gaps", len(may) > 0 && may[len(may)-1]-may[0] >= len(may))
		}
		fields := randomFields(r, y)
		hands := modelEnough(y, all, fields)
		count("some hands", hands.Hi > 0)
		count("other hands in other truths", hands.Lo < hands.Hi)
		ends := map[opened]bool{modelOpened(y, truths[0]): true, modelOpened(y, truths[len(truths)-1]): true}
		count("more hands between the ends", hands.Hi > modelEnough(y, ends, fields).Hi)
		rows := 0
		for _, f := range fields {
			rows = max(rows, f.Rows)
		}
		count("fields in one week", hands.Hi > rows)
	})
	for name, n := range counts {
		if n < 20 {
			t.Errorf("%s: %d times", name, n)
		}
	}
	if len(counts) != 24 {
		t.Errorf("not all that was counted was so, and was not so: %v", counts)
	}
}

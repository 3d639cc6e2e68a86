package season_test

import (
	"math"
	"math/rand"
	"slices"
	"testing"

	"bybloem/api"
	"bybloem/season"
)

func mustRun(t *testing.T, y season.Year, truth []int) (opens, ripens []int) {
	t.Helper()
	opens, ripens, e := season.Run(y, truth)
	if e != api.OK || len(opens) != len(y.Kinds) || len(ripens) != len(y.Kinds) {
		t.Fatalf("Run of %v of %v: %v, %v, %v", truth, y, opens, ripens, e)
	}
	return opens, ripens
}

func mustLeft(t *testing.T, y season.Year, sights []season.Sight) []season.Range {
	t.Helper()
	l, e := season.Left(y, sights)
	if e != api.OK || len(l) != len(y.Weeks) {
		t.Fatalf("Left of %v with %v: %v, %v", y, sights, l, e)
	}
	return l
}

func mustSpans(t *testing.T, y season.Year, sights []season.Sight) []season.Span {
	t.Helper()
	l, e := season.Spans(y, sights)
	if e != api.OK || len(l) != len(y.Kinds) {
		t.Fatalf("Spans of %v with %v: %v, %v", y, sights, l, e)
	}
	return l
}

func mustFlowers(t *testing.T, y season.Year, sights []season.Sight, kind int) (may, surely []int) {
	t.Helper()
	may, surely, e := season.Flowers(y, sights, kind)
	if e != api.OK || !rises(may) || !rises(surely) {
		t.Fatalf("Flowers of %d of %v with %v: %v, %v, %v", kind, y, sights, may, surely, e)
	}
	return may, surely
}

func mustHead(t *testing.T, y season.Year, truth []int, fields []season.Field) int {
	t.Helper()
	l, n, e := season.Heading(y, truth, fields)
	if e != api.OK || !season.ProveHeading(y, truth, fields, l, n) {
		t.Fatalf("Heading of %v in %v of %v: %v, %d, %v", fields, truth, y, l, n, e)
	}
	return n
}

func mustEnough(t *testing.T, y season.Year, sights []season.Sight, fields []season.Field) int {
	t.Helper()
	n, e := season.Enough(y, sights, fields)
	if e != api.OK {
		t.Fatalf("Enough of %v with %v and %v: %d, %v", y, sights, fields, n, e)
	}
	return n
}

// agrees tells whether some truth agrees with the sights.
func agrees(t *testing.T, y season.Year, sights []season.Sight) bool {
	t.Helper()
	_, e := season.Left(y, sights)
	if e != api.OK && e != api.ErrFail {
		t.Fatalf("Left of %v with %v: %v", y, sights, e)
	}
	return e == api.OK
}

func rises(l []int) bool { return slices.IsSorted(l) && len(slices.Compact(slices.Clone(l))) == len(l) }

// isWithin tells whether each number of a list is in another one.
func isWithin(l, all []int) bool {
	isMissing := func(n int) bool { return !slices.Contains(all, n) }
	return !slices.ContainsFunc(l, isMissing)
}

func has(r season.Range, n int) bool { return r.Lo <= n && n <= r.Hi }

func isWider(r, than season.Range) bool { return r.Lo < than.Lo || r.Hi > than.Hi }

// someTruths are truths of the year that agree with the sights, the given one
// and others that are found by chance.
func someTruths(r *rand.Rand, y season.Year, truth []int, sights []season.Sight) [][]int {
	l := [][]int{truth}
	for range 20 {
		other := randomTruth(r, y)
		if r.Intn(2) == 0 { // one that is like the given one up to a week
			copy(other, truth[:r.Intn(len(truth))])
		}
		if modelAgrees(y, other, sights) {
			l = append(l, other)
		}
	}
	return l
}

// P6.7

func TestAnyTruth(t *testing.T) {
	others := 0
	eachYear(t, 1500, func(r *rand.Rand, y season.Year, truth []int, sights []season.Sight) {
		sums, found := mustLeft(t, y, sights), mustSpans(t, y, sights)
		truths := someTruths(r, y, truth, sights)
		others += len(truths) - 1
		for _, truth := range truths {
			opens, ripens := mustRun(t, y, truth)
			for week, r := range sums {
				if n := modelSum(truth, week); !has(r, n) {
					t.Fatalf("Left of %v with %v: %v, in %v it is %d up to the week %d", y, sights, sums, truth, n, week)
				}
			}
			for kind, s := range found {
				if !has(s.Open, opens[kind]) || !has(s.Ripe, ripens[kind]) {
					t.Fatalf("Spans of %v with %v: %v, in %v of %d in %d and %d", y, sights, found, truth, kind, opens[kind], ripens[kind])
				}
			}
		}
		for kind := range y.Kinds {
			may, surely := mustFlowers(t, y, sights, kind)
			for _, truth := range truths {
				now, _ := modelFlowers(y, map[opened]bool{modelOpened(y, truth): true}, kind)
				if !isWithin(now, may) || !isWithin(surely, now) {
					t.Fatalf("Flowers of %d of %v with %v: %v and %v, in %v %v", kind, y, sights, may, surely, truth, now)
				}
			}
		}
	})
	if others < 5000 {
		t.Errorf("%d other truths", others)
	}
}

// P6.8

// told tells whether some truth has a sum up to the week that is at least, or
// at most, so much, by a kind that opens just by such a sum.
func told(t *testing.T, y season.Year, sights []season.Sight, week, sum int, atLeast bool) bool {
	t.Helper()
	bloom := sum
	if !atLeast {
		bloom++
	}
	if bloom < 1 { // all sums are
		return atLeast
	}
	y.Kinds = append(slices.Clone(y.Kinds), season.Kind{Bloom: bloom, Weeks: 1})
	s := season.Sight{Kind: len(y.Kinds) - 1, Week: week, Open: atLeast}
	return agrees(t, y, append(slices.Clone(sights), s))
}

func TestEachEnd(t *testing.T) {
	eachYear(t, 1000, func(r *rand.Rand, y season.Year, truth []int, sights []season.Sight) {
		y.Kinds = y.Kinds[:min(len(y.Kinds), api.MaxKinds-1)]
		ofOthers := func(s season.Sight) bool { return s.Kind >= len(y.Kinds) }
		sights = slices.DeleteFunc(sights, ofOthers)
		for week, r := range mustLeft(t, y, sights) {
			for _, x := range []struct {
				sum     int
				atLeast bool
				want    bool
			}{{r.Lo, false, true}, {r.Lo - 1, false, false}, {r.Hi, true, true}, {r.Hi + 1, true, false}} {
				if is := told(t, y, sights, week, x.sum, x.atLeast); is != x.want {
					t.Fatalf("Left of %v with %v: %v for the week %d, with %d or more (%v): %v", y, sights, r, week, x.sum, x.atLeast, is)
				}
			}
		}
	})
}

// TestEachWeek has the ends of the weeks in which kinds open.
func TestEachWeek(t *testing.T) {
	eachYear(t, 1000, func(r *rand.Rand, y season.Year, truth []int, sights []season.Sight) {
		for kind, s := range mustSpans(t, y, sights) {
			in := func(week int) bool {
				var l []season.Sight
				if week < len(y.Weeks) {
					l = append(l, isOpen(kind, week))
				}
				if week > 0 {
					l = append(l, isShut(kind, week-1))
				}
				return agrees(t, y, append(slices.Clone(sights), l...))
			}
			may, surely := mustFlowers(t, y, sights, kind)
			for week := range len(y.Weeks) + 1 {
				is := in(week)
				if is != has(s.Open, week) && (is || week == s.Open.Lo || week == s.Open.Hi) {
					t.Fatalf("Spans of %v with %v: %v for %d, in the week %d it may open: %v", y, sights, s, kind, week, is)
				}
				if is && week < len(y.Weeks) && !slices.Contains(may, week) {
					t.Fatalf("Flowers of %d of %v with %v: %v, in the week %d it may open", kind, y, sights, may, week)
				}
			}
			if s.Open.Hi == len(y.Weeks) && len(surely) > 0 {
				t.Fatalf("Flowers of %d of %v with %v: surely %v, and it may never open", kind, y, sights, surely)
			}
		}
	})
}

// P6.9

func TestSeen(t *testing.T) {
	known, more := 0, 0
	eachYear(t, 1500, func(r *rand.Rand, y season.Year, truth []int, sights []season.Sight) {
		s := season.Sight{Kind: r.Intn(len(y.Kinds)), Week: r.Intn(len(y.Weeks)), Open: r.Intn(2) == 0}
		with := slices.Insert(slices.Clone(sights), r.Intn(len(sights)+1), s)
		if !agrees(t, y, with) {
			if modelAgrees(y, truth, with) {
				t.Fatalf("no truth of %v agrees with %v, and %v does", y, with, truth)
			}
			return
		}
		before, after := mustLeft(t, y, sights), mustLeft(t, y, with)
		for week := range before {
			if isWider(after[week], before[week]) {
				t.Fatalf("Left of %v with %v: %v, with %v too %v", y, sights, before, s, after)
			}
		}
		known++
		if !slices.Equal(before, after) {
			more++
		}
		spans, less := mustSpans(t, y, sights), mustSpans(t, y, with)
		for kind := range spans {
			if isWider(less[kind].Open, spans[kind].Open) || isWider(less[kind].Ripe, spans[kind].Ripe) {
				t.Fatalf("Spans of %v with %v: %v, with %v too %v", y, sights, spans, s, less)
			}
			may, surely := mustFlowers(t, y, sights, kind)
			mayNow, surelyNow := mustFlowers(t, y, with, kind)
			if !isWithin(mayNow, may) || !isWithin(surely, surelyNow) {
				t.Fatalf("Flowers of %d of %v with %v: %v and %v, with %v too %v and %v", kind, y, sights, may, surely, s, mayNow, surelyNow)
			}
		}
	})
	if min(more, known-more) < 100 {
		t.Errorf("%d sights were possible, by %d of them more was known", known, more)
	}
}

func TestSightsOfTruths(t *testing.T) {
	eachYear(t, 1000, func(r *rand.Rand, y season.Year, truth []int, _ []season.Sight) {
		sights := randomSights(r, y, truth, api.MaxSights)
		opens, _ := mustRun(t, y, truth)
		for _, s := range sights {
			if s.Open != (opens[s.Kind] <= s.Week) {
				t.Fatalf("Run of %v of %v: %v, with the sight %v", truth, y, opens, s)
			}
		}
		if !agrees(t, y, sights) {
			t.Fatalf("no truth of %v agrees with %v, and %v does", y, sights, truth)
		}
		left := mustLeft(t, y, sights)
		slices.Reverse(sights)
		if l := mustLeft(t, y, sights); !slices.Equal(l, left) {
			t.Fatalf("Left of %v with %v: %v, turned %v", y, sights, l, left)
		}
	})
}

// P6.10

func TestEnoughHands(t *testing.T) {
	reached := 0
	eachYear(t, 1000, func(r *rand.Rand, y season.Year, truth []int, sights []season.Sight) {
		fields := randomFields(r, y)
		all := mustEnough(t, y, sights, fields)
		for _, truth := range someTruths(r, y, truth, sights) {
			n := mustHead(t, y, truth, fields)
			if n > all {
				t.Fatalf("Enough of %v with %v and %v: %d, in %v %d", y, sights, fields, all, truth, n)
			}
			if n == all && n > 0 {
				reached++
			}
			if o := modelOpened(y, truth); n != modelFewest(y, o, fields) {
				t.Fatalf("Heading of %v in %v of %v: %d", fields, truth, y, n)
			}
			fewerHands(t, r, y, truth, fields, n)
		}
	})
	if reached < 500 {
		t.Errorf("%d times as many hands as are enough", reached)
	}
}

// fewerHands tries to head with fewer hands.
func fewerHands(t *testing.T, r *rand.Rand, y season.Year, truth []int, fields []season.Field, fewest int) {
	t.Helper()
	o := modelOpened(y, truth)
	for range 5 {
		var weeks []int
		for _, f := range fields {
			can := modelCan(y, f.Kind, o[f.Kind])
			weeks = append(weeks, can[r.Intn(len(can))])
		}
		hands := modelHands(fields, weeks)
		if season.ProveHeading(y, truth, fields, weeks, fewest-1) || !season.ProveHeading(y, truth, fields, weeks, hands) || season.ProveHeading(y, truth, fields, weeks, hands-1) {
			t.Fatalf("ProveHeading of %v for %v in %v of %v, with the fewest hands %d", weeks, fields, truth, y, fewest)
		}
	}
}

// P6.11

func TestWarmer(t *testing.T) {
	sooner := 0
	eachYear(t, 1500, func(r *rand.Rand, y season.Year, truth []int, _ []season.Sight) {
		warmer := slices.Clone(truth)
		for range 1 + r.Intn(4) {
			week := r.Intn(len(truth))
			warmer[week] += r.Intn(y.Weeks[week].Hi - warmer[week] + 1)
		}
		opens, ripens := mustRun(t, y, truth)
		opensNow, ripensNow := mustRun(t, y, warmer)
		for kind := range y.Kinds {
			if opensNow[kind] > opens[kind] || ripensNow[kind] > ripens[kind] {
				t.Fatalf("Run of %v of %v: %v, %v, of %v: %v, %v", truth, y, opens, ripens, warmer, opensNow, ripensNow)
			}
			if opensNow[kind] < opens[kind] {
				sooner++
			}
		}
	})
	if sooner < 100 {
		t.Errorf("%d kinds opened sooner", sooner)
	}
}

// P6.12

func TestRows(t *testing.T) {
	more := 0
	eachYear(t, 800, func(r *rand.Rand, y season.Year, truth []int, sights []season.Sight) {
		fields := randomFields(r, y)
		n, all := mustHead(t, y, truth, fields), mustEnough(t, y, sights, fields)
		var greater [][]season.Field
		if len(fields) > 0 {
			row := slices.Clone(fields)
			f := &row[r.Intn(len(row))]
			f.Rows = min(f.Rows+1, api.MaxRows)
			greater = append(greater, row)
		}
		if len(fields) < api.MaxFields {
			field := season.Field{Kind: r.Intn(len(y.Kinds)), Rows: 1 + r.Intn(api.MaxRows)}
			greater = append(greater, slices.Insert(slices.Clone(fields), r.Intn(len(fields)+1), field))
		}
		for _, l := range greater {
			now, allNow := mustHead(t, y, truth, l), mustEnough(t, y, sights, l)
			if now < n || allNow < all {
				t.Fatalf("%v need %d in %v of %v, and %d with %v, %v %d and %d", fields, n, truth, y, all, sights, l, now, allNow)
			}
			if now > n && allNow > all {
				more++
			}
		}
		other := slices.Clone(fields)
		r.Shuffle(len(other), func(a, b int) { other[a], other[b] = other[b], other[a] })
		if now, allNow := mustHead(t, y, truth, other), mustEnough(t, y, sights, other); now != n || allNow != all {
			t.Fatalf("%v need %d in %v of %v, and %d with %v, in another order %d and %d", fields, n, truth, y, all, sights, now, allNow)
		}
	})
	if more < 100 {
		t.Errorf("more hands were needed %d times", more)
	}
}

// P6.13

func TestBefore(t *testing.T) {
	eachYear(t, 1000, func(r *rand.Rand, y season.Year, truth []int, sights []season.Sight) {
		last := r.Intn(len(y.Weeks))
		isLater := func(s season.Sight) bool { return s.Week > last }
		sights = slices.DeleteFunc(sights, isLater)
		left := mustLeft(t, y, sights)[:last+1]
		cut, other := y, y
		cut.Weeks = y.Weeks[:last+1]
		other.Weeks = slices.Clone(y.Weeks[:last+1])
		for range r.Intn(api.MaxCalendar - last) {
			low := r.Intn(api.MaxWarmth + 1)
			other.Weeks = append(other.Weeks, to(low, low+r.Intn(api.MaxWarmth+1-low)))
		}
		for _, y := range []season.Year{cut, other} {
			if l := mustLeft(t, y, sights); !slices.Equal(l[:last+1], left) {
				t.Fatalf("Left of %v with %v: %v, with other weeks behind %d %v", y, sights, l, last, left)
			}
		}
	})
}

// R3

func TestNilAndEmpty(t *testing.T) {
	for _, sights := range [][]season.Sight{nil, {}} {
		for _, fields := range [][]season.Field{nil, {}} {
			left(t, "nil or empty", spring(), sights, []season.Range{to(10, 20), to(20, 40), to(20, 40), to(50, 80), to(55, 90)})
			flowers(t, "nil or empty", spring(), sights, 1, []int{3, 4}, nil)
			enough(t, "nil or empty", spring(), sights, fields, 0)
			headed(t, "nil or empty", spring(), warm(), fields, 0)
			for _, weeks := range [][]int{nil, {}} {
				if !season.ProveHeading(spring(), warm(), fields, weeks, 0) {
					t.Error("ProveHeading of nothing")
				}
			}
		}
	}
	for _, y := range []season.Year{{}, {Weeks: []season.Range{}, Kinds: []season.Kind{}}} {
		if e := season.CheckYear(y); e != api.ErrArg {
			t.Errorf("CheckYear of %v: %v", y, e)
		}
	}
}

// R4

func TestMemory(t *testing.T) {
	eachYear(t, 100, func(r *rand.Rand, y season.Year, truth []int, sights []season.Sight) {
		// Room behind each list, which no call may write into.
		y.Weeks = append(make([]season.Range, 0, 40), y.Weeks...)
		y.Kinds = append(make([]season.Kind, 0, 40), y.Kinds...)
		truth, sights = append(make([]int, 0, 40), truth...), append(make([]season.Sight, 0, 40), sights...)
		fields := append(make([]season.Field, 0, 40), randomFields(r, y)...)
		before := change(func(*season.Year) {}).of(y)
		truthBefore, sightsBefore, fieldsBefore := slices.Clone(truth), slices.Clone(sights), slices.Clone(fields)
		var results [2][][]int
		for n := range results {
			results[n] = allOf(t, y, truth, sights, fields, r.Intn(1000))
			if !slices.Equal(y.Weeks, before.Weeks) || !slices.Equal(y.Kinds, before.Kinds) || !slices.Equal(truth, truthBefore) || !slices.Equal(sights, sightsBefore) || !slices.Equal(fields, fieldsBefore) {
				t.Fatalf("%v became %v, %v became %v, %v became %v, or %v became %v", before, y, truthBefore, truth, sightsBefore, sights, fieldsBefore, fields)
			}
		}
		if !slices.EqualFunc(results[0], results[1], slices.Equal) {
			t.Fatalf("the calls for %v return %v, and then %v", y, results[0], results[1])
		}
	})
}

// allOf returns what all calls return for a year, in lists of its own, and
// writes into what they returned.
func allOf(t *testing.T, y season.Year, truth []int, sights []season.Sight, fields []season.Field, rubbish int) [][]int {
	t.Helper()
	var all [][]int
	keep := func(lists ...[]int) {
		for n := range lists {
			all = append(all, slices.Clone(lists[n]))
		}
		for n, l := range lists {
			for i := range l {
				l[i] = rubbish
			}
			_ = append(l, rubbish)
			for m := range lists[n+1:] {
				if !slices.Equal(lists[n+1+m], all[len(all)-len(lists)+n+1+m]) {
					t.Fatalf("lists of a result share memory: %v", all)
				}
			}
		}
	}
	opens, ripens := mustRun(t, y, truth)
	keep(opens, ripens)
	may, surely := mustFlowers(t, y, sights, 0)
	keep(may, surely)
	weeks, hands, _ := season.Heading(y, truth, fields)
	keep(weeks)
	left, spans := mustLeft(t, y, sights), mustSpans(t, y, sights)
	for n, r := range left {
		all = append(all, []int{r.Lo, r.Hi})
		left[n] = to(rubbish, rubbish)
	}
	for n, s := range spans {
		all = append(all, []int{s.Open.Lo, s.Open.Hi, s.Ripe.Lo, s.Ripe.Hi})
		spans[n] = season.Span{Open: to(rubbish, rubbish)}
	}
	_, _ = append(left, to(rubbish, rubbish)), append(spans, season.Span{})
	return append(all, []int{hands, mustEnough(t, y, sights, fields)})
}

// P1

// TestAnything has arguments of all kinds: each call ends, and does not panic.
func TestAnything(t *testing.T) {
	r := rand.New(rand.NewSource(6))
	numbers := append(beyond(0, 5), 0, 1, 2, 3, 5, 20, 1000, 30000, math.MaxInt-1, math.MinInt+1)
	number := func() int { return numbers[r.Intn(len(numbers))] }
	list := func() []int {
		l := make([]int, r.Intn(8))
		for n := range l {
			l[n] = number()
		}
		return l
	}
	for range 5000 {
		var y season.Year
		for range r.Intn(4) {
			y.Weeks = append(y.Weeks, to(number(), number()))
			y.Kinds = append(y.Kinds, season.Kind{Bloom: number(), Weeks: number(), Head: number(), Ripe: number()})
		}
		var sights []season.Sight
		var fields []season.Field
		for range r.Intn(4) {
			sights = append(sights, season.Sight{Kind: number(), Week: number(), Open: r.Intn(2) == 0})
			fields = append(fields, season.Field{Kind: number(), Rows: number()})
		}
		for _, y := range []season.Year{y, spring()} {
			for _, truth := range [][]int{list(), warm()} {
				season.Run(y, truth)
				season.Heading(y, truth, fields)
				season.ProveHeading(y, truth, fields, list(), number())
			}
			season.Left(y, sights)
			season.Spans(y, sights)
			season.Flowers(y, sights, number())
			season.Enough(y, sights, fields)
		}
	}
}

// TestGreatYears has years of as many truths as there can be: each call ends
// soon.
func TestGreatYears(t *testing.T) {
	y := mixed()
	for _, fields := range [][]season.Field{fieldsOf(5, 50, 49, 48, 47, 60), fieldsOf(5, 7, 7, 7, 7, 7), fieldsOf(1, 9, 9, 9, 9, 9)} {
		mustEnough(t, y, nil, fields)
		mustHead(t, y, slices.Repeat([]int{1}, api.MaxCalendar), fields)
	}
	for kind := range y.Kinds {
		may, surely := mustFlowers(t, y, nil, kind)
		if len(may) != api.MaxCalendar || len(surely) != 0 {
			t.Errorf("Flowers of %d of %v: %v, %v", kind, y, may, surely)
		}
	}
	spans(t, "any week", y, nil, slices.Repeat([]season.Span{{Open: to(0, 20), Ripe: to(0, 20)}}, api.MaxKinds)...)
}

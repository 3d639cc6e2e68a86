package season_test

import (
	"math"
	"math/rand"
	"slices"
	"testing"

	"bybloem/api"
	"bybloem/season"
)

func to(low, high int) season.Range { return season.Range{Lo: low, Hi: high} }

// spring is the year of the chapter's examples.
func spring() season.Year {
	return season.Year{
		Weeks: []season.Range{to(10, 20), to(10, 20), to(0, 0), to(30, 40), to(5, 10)},
		Kinds: []season.Kind{{Bloom: 35, Weeks: 2, Head: 2, Ripe: 40}, {Bloom: 60, Weeks: 1, Head: 1, Ripe: 100}},
	}
}

// warm is a truth of the spring.
func warm() []int { return []int{20, 20, 0, 30, 10} }

// isOpen and isShut are sights.
func isOpen(kind, week int) season.Sight { return season.Sight{Kind: kind, Week: week, Open: true} }

func isShut(kind, week int) season.Sight { return season.Sight{Kind: kind, Week: week} }

// year is a year with such weeks, and one kind.
func year(k season.Kind, weeks ...season.Range) season.Year {
	return season.Year{Weeks: weeks, Kinds: []season.Kind{k}}
}

// exactly are weeks of which the warmth is known.
func exactly(truth ...int) []season.Range {
	var l []season.Range
	for _, warmth := range truth {
		l = append(l, to(warmth, warmth))
	}
	return l
}

// full has as much of all as a year can have.
func full() season.Year {
	return season.Year{
		Weeks: slices.Repeat([]season.Range{to(0, api.MaxWarmth)}, api.MaxCalendar),
		Kinds: slices.Repeat([]season.Kind{{Bloom: api.MaxHeat, Weeks: api.MaxCalendar, Head: api.MaxHead, Ripe: api.MaxHeat}}, api.MaxKinds),
	}
}

// mixed has weeks of many truths, in which five kinds can open in any order of
// weeks.
func mixed() season.Year {
	y := full()
	for kind := range y.Kinds {
		y.Kinds[kind] = season.Kind{Bloom: 1 + kind, Weeks: 3, Head: api.MaxHead, Ripe: 2}
	}
	return y
}

// change is what makes a year another one.
type change func(y *season.Year)

func (c change) of(y season.Year) season.Year {
	y.Weeks, y.Kinds = slices.Clone(y.Weeks), slices.Clone(y.Kinds)
	c(&y)
	return y
}

// beyond are numbers that are not from low to high.
func beyond(low, high int) []int {
	return []int{low - 1, high + 1, math.MinInt, math.MaxInt}
}

// badYear is a year that no call takes, and why.
type badYear struct {
	y    season.Year
	want api.Errno
}

// invalidChanges make the spring no year.
func invalidChanges() []change {
	l := []change{
		func(y *season.Year) { *y = season.Year{} },
		func(y *season.Year) { y.Weeks = nil },
		func(y *season.Year) { y.Weeks = []season.Range{} },
		func(y *season.Year) { y.Kinds = nil },
		func(y *season.Year) { y.Kinds = []season.Kind{} },
		func(y *season.Year) { y.Weeks[0] = to(3, 2) },
		func(y *season.Year) { y.Weeks[4] = to(1000, 0) },
		func(y *season.Year) { y.Weeks[4] = to(-1, -1) },
		func(y *season.Year) { y.Weeks[0] = to(1001, 1001) },
		func(y *season.Year) { y.Weeks[2] = to(math.MinInt, math.MaxInt) },
		func(y *season.Year) { y.Kinds[1] = season.Kind{} },
	}
	for _, n := range beyond(0, api.MaxWarmth) {
		l = append(l,
			func(y *season.Year) { y.Weeks[0].Lo = n },
			func(y *season.Year) { y.Weeks[0].Hi = n },
			func(y *season.Year) { y.Weeks[4].Lo = n },
			func(y *season.Year) { y.Weeks[4].Hi = n })
	}
	for kind := range 2 {
		for _, n := range beyond(1, api.MaxHeat) {
			l = append(l, func(y *season.Year) { y.Kinds[kind].Bloom = n })
		}
		for _, n := range beyond(1, api.MaxCalendar) {
			l = append(l, func(y *season.Year) { y.Kinds[kind].Weeks = n })
		}
		for _, n := range beyond(0, api.MaxHead) {
			l = append(l, func(y *season.Year) { y.Kinds[kind].Head = n })
		}
		for _, n := range beyond(0, api.MaxHeat) {
			l = append(l, func(y *season.Year) { y.Kinds[kind].Ripe = n })
		}
	}
	return l
}

func badYears() []badYear {
	var l []badYear
	for _, c := range invalidChanges() {
		l = append(l, badYear{c.of(spring()), api.ErrArg})
	}
	weeks := func(y *season.Year) { y.Weeks = make([]season.Range, api.MaxCalendar+1) }
	kinds := func(y *season.Year) { y.Kinds = make([]season.Kind, api.MaxKinds+1) }
	// The error that the table asks for first.
	for _, c := range []change{
		weeks,
		kinds,
		func(y *season.Year) { weeks(y); kinds(y) },
		func(y *season.Year) { weeks(y); y.Kinds = nil },
		func(y *season.Year) { kinds(y); y.Weeks = nil },
		func(y *season.Year) { y.Weeks = slices.Repeat([]season.Range{to(3, 2)}, api.MaxCalendar+1) },
		func(y *season.Year) { y.Weeks = make([]season.Range, 1000) },
		func(y *season.Year) { kinds(y); y.Weeks[0].Lo = -1 },
	} {
		l = append(l, badYear{c.of(spring()), api.ErrLimit})
	}
	return l
}

// badSights are sights that the spring has not.
func badSights() map[api.Errno][][]season.Sight {
	good := isOpen(0, 4)
	many := slices.Repeat([]season.Sight{good}, api.MaxSights+1)
	bad := map[api.Errno][][]season.Sight{api.ErrLimit: {
		many,
		slices.Repeat([]season.Sight{isOpen(9, 9)}, api.MaxSights+1),
		slices.Repeat([]season.Sight{isOpen(0, 0)}, 1000),
	}}
	for _, n := range beyond(0, 1) {
		bad[api.ErrRange] = append(bad[api.ErrRange], []season.Sight{isOpen(n, 0)}, []season.Sight{good, good, isShut(n, 4)})
	}
	for _, n := range beyond(0, 4) {
		bad[api.ErrRange] = append(bad[api.ErrRange], []season.Sight{isOpen(0, n)}, []season.Sight{isOpen(0, 0), isShut(1, n)})
	}
	bad[api.ErrRange] = append(bad[api.ErrRange], append(many[:api.MaxSights-1:api.MaxSights-1], isShut(2, 0)))
	return bad
}

// badFields are fields that the spring has not.
func badFields() map[api.Errno][][]season.Field {
	good := season.Field{Kind: 1, Rows: api.MaxRows}
	bad := map[api.Errno][][]season.Field{api.ErrLimit: {
		slices.Repeat([]season.Field{good}, api.MaxFields+1),
		make([]season.Field, api.MaxFields+1),
		make([]season.Field, 1000),
	}}
	for _, n := range beyond(0, 1) {
		bad[api.ErrRange] = append(bad[api.ErrRange], []season.Field{{Kind: n, Rows: 1}}, []season.Field{good, good, good, good, {Kind: n, Rows: 1}})
	}
	for _, n := range append(beyond(1, api.MaxRows), 0) {
		bad[api.ErrRange] = append(bad[api.ErrRange], []season.Field{{Rows: n}}, []season.Field{good, {Kind: 1, Rows: n}})
	}
	return bad
}

// badTruths are no truths of the spring.
func badTruths() [][]int {
	l := [][]int{nil, {}, warm()[:4], append(warm(), 0), make([]int, 1000), {0, 0, 0, 0, 0}}
	for week, w := range spring().Weeks {
		for _, n := range beyond(w.Lo, w.Hi) {
			truth := warm()
			truth[week] = n
			l = append(l, truth)
		}
	}
	return l
}

// The calls with sights, with a truth and with fields, if they have no result.

func askedSights(t *testing.T, y season.Year, sights []season.Sight, kind int, fields []season.Field, want api.Errno) {
	t.Helper()
	if l, e := season.Left(y, sights); e != want || l != nil {
		t.Errorf("Left of %v with %v: %v, %v, not %v", y, sights, l, e, want)
	}
	if l, e := season.Spans(y, sights); e != want || l != nil {
		t.Errorf("Spans of %v with %v: %v, %v, not %v", y, sights, l, e, want)
	}
	askedFlowers(t, y, sights, kind, want)
	askedEnough(t, y, sights, fields, want)
}

func askedFlowers(t *testing.T, y season.Year, sights []season.Sight, kind int, want api.Errno) {
	t.Helper()
	if a, b, e := season.Flowers(y, sights, kind); e != want || a != nil || b != nil {
		t.Errorf("Flowers of %d of %v with %v: %v, %v, %v, not %v", kind, y, sights, a, b, e, want)
	}
}

func askedEnough(t *testing.T, y season.Year, sights []season.Sight, fields []season.Field, want api.Errno) {
	t.Helper()
	if n, e := season.Enough(y, sights, fields); e != want || n != 0 {
		t.Errorf("Enough of %v with %v and %v: %d, %v, not %v", y, sights, fields, n, e, want)
	}
}

func askedRun(t *testing.T, y season.Year, truth []int, want api.Errno) {
	t.Helper()
	if a, b, e := season.Run(y, truth); e != want || a != nil || b != nil {
		t.Errorf("Run of %v of %v: %v, %v, %v, not %v", truth, y, a, b, e, want)
	}
}

func askedHeading(t *testing.T, y season.Year, truth []int, fields []season.Field, want api.Errno) {
	t.Helper()
	if l, n, e := season.Heading(y, truth, fields); e != want || l != nil || n != 0 {
		t.Errorf("Heading of %v in %v of %v: %v, %d, %v, not %v", fields, truth, y, l, n, e, want)
	}
	for _, week := range []int{-1, 0, 1, 2, 3, 4} {
		weeks := slices.Repeat([]int{week}, len(fields))
		if season.ProveHeading(y, truth, fields, weeks, math.MaxInt) {
			t.Errorf("ProveHeading of %v for %v in %v of %v", weeks, fields, truth, y)
		}
	}
}

// P6.1

func TestCheckYear(t *testing.T) {
	for _, y := range []season.Year{
		spring(), full(), mixed(),
		year(season.Kind{Bloom: 1, Weeks: 1}, to(0, 0)),
		year(season.Kind{Bloom: api.MaxHeat, Weeks: api.MaxCalendar, Head: api.MaxHead, Ripe: api.MaxHeat}, to(1000, 1000)),
	} {
		if e := season.CheckYear(y); e != api.OK {
			t.Errorf("CheckYear of %v: %v", y, e)
		}
	}
	for _, x := range badYears() {
		if e := season.CheckYear(x.y); e != x.want {
			t.Errorf("CheckYear of %v: %v, not %v", x.y, e, x.want)
		}
	}
}

// TestRefusedYears has years that no call takes, whatever is asked of them.
func TestRefusedYears(t *testing.T) {
	for _, x := range badYears() {
		askedSights(t, x.y, nil, 0, nil, x.want)
		askedSights(t, x.y, make([]season.Sight, api.MaxSights+1), -1, make([]season.Field, api.MaxFields+1), x.want)
		askedSights(t, x.y, []season.Sight{isOpen(9, 9)}, math.MaxInt, []season.Field{{}}, x.want)
		for _, truth := range [][]int{nil, warm(), make([]int, len(x.y.Weeks)), {0}} {
			askedRun(t, x.y, truth, x.want)
			askedHeading(t, x.y, truth, nil, x.want)
			askedHeading(t, x.y, truth, make([]season.Field, api.MaxFields+1), x.want)
		}
	}
}

// TestRefusedSights has sights that stand ahead of all but the year.
func TestRefusedSights(t *testing.T) {
	for want, lists := range badSights() {
		for _, sights := range lists {
			askedSights(t, spring(), sights, 0, nil, want)
			askedSights(t, spring(), sights, 2, make([]season.Field, api.MaxFields+1), want)
			askedSights(t, spring(), sights, -1, []season.Field{{}}, want)
		}
	}
}

// TestRefusedKinds has kinds that stand behind the sights, and ahead of what
// cannot be.
func TestRefusedKinds(t *testing.T) {
	for _, sights := range [][]season.Sight{nil, {isOpen(0, 0)}} {
		for _, kind := range beyond(0, 1) {
			askedFlowers(t, spring(), sights, kind, api.ErrRange)
		}
	}
}

// TestRefusedFields has fields that stand behind sights or a truth, and ahead of
// what cannot be.
func TestRefusedFields(t *testing.T) {
	for want, lists := range badFields() {
		for _, fields := range lists {
			askedHeading(t, spring(), warm(), fields, want)
			askedHeading(t, spring(), []int{10, 20, 0, 30, 5}, fields, want)
			askedEnough(t, spring(), nil, fields, want)
			askedEnough(t, spring(), []season.Sight{isOpen(0, 0)}, fields, want)
		}
	}
}

func TestRefusedTruths(t *testing.T) {
	for _, truth := range badTruths() {
		askedRun(t, spring(), truth, api.ErrRange)
		askedHeading(t, spring(), truth, nil, api.ErrRange)
		askedHeading(t, spring(), truth, []season.Field{{Kind: 0, Rows: 1}}, api.ErrRange)
		askedHeading(t, spring(), truth, make([]season.Field, api.MaxFields+1), api.ErrRange)
	}
}

// TestRefusedMore has what is too great on top of what is not a truth or a field.
func TestRefusedMore(t *testing.T) {
	all := slices.Repeat([]season.Sight{isOpen(0, 4)}, api.MaxSights)
	if l, e := season.Left(spring(), all); e != api.OK || len(l) != 5 {
		t.Errorf("Left with %d sights: %v, %v", len(all), l, e)
	}
	fields := slices.Repeat([]season.Field{{Kind: 1, Rows: api.MaxRows}}, api.MaxFields)
	if l, n, e := season.Heading(spring(), warm(), fields); e != api.OK || n != 500 || !slices.Equal(l, []int{4, 4, 4, 4, 4}) {
		t.Errorf("Heading of %v: %v, %d, %v", fields, l, n, e)
	}
	if n, e := season.Enough(spring(), nil, fields); e != api.OK || n != 500 {
		t.Errorf("Enough of %v: %d, %v", fields, n, e)
	}
}

// TestFailed has sights with which no truth agrees.
func TestFailed(t *testing.T) {
	for _, sights := range [][]season.Sight{
		{isOpen(0, 0)},
		{isOpen(1, 2)},
		{isShut(0, 3)},
		{isShut(0, 4)},
		{isOpen(0, 2), isShut(0, 2)},
		{isShut(0, 2), isOpen(0, 2)},
		{isOpen(0, 1), isShut(0, 2)},
		{isShut(0, 2), isOpen(0, 1)},
		{isShut(0, 1), isOpen(0, 2)}, // nothing comes in the week 2
		{isShut(1, 3), isOpen(0, 1)},
		{isOpen(0, 1), isShut(1, 4)},
		{isOpen(0, 3), isOpen(1, 4), isOpen(1, 0)},
	} {
		askedSights(t, spring(), sights, 0, nil, api.ErrFail)
		askedSights(t, spring(), sights, 1, []season.Field{{Kind: 1, Rows: 3}}, api.ErrFail)
	}
	askedSights(t, full(), []season.Sight{isOpen(4, 19)}, 4, nil, api.ErrFail)
	dark := year(season.Kind{Bloom: 1, Weeks: 1}, to(0, 0))
	askedSights(t, dark, []season.Sight{isOpen(0, 0)}, 0, nil, api.ErrFail)
}

// ran holds what comes of a truth.
func ran(t *testing.T, name string, y season.Year, truth, opens, ripens []int) {
	t.Helper()
	if a, b, e := season.Run(y, truth); e != api.OK || !slices.Equal(a, opens) || !slices.Equal(b, ripens) {
		t.Errorf("%s: Run of %v of %v: %v, %v, %v, not %v, %v", name, truth, y, a, b, e, opens, ripens)
	}
}

func TestRun(t *testing.T) {
	ran(t, "the example", spring(), []int{10, 20, 0, 30, 5}, []int{3, 3}, []int{5, 5})
	ran(t, "just enough", spring(), []int{15, 20, 0, 30, 10}, []int{1, 3}, []int{4, 5})
	ran(t, "one less", spring(), []int{14, 20, 0, 30, 10}, []int{3, 3}, []int{5, 5})
	ran(t, "the warmest", spring(), []int{20, 20, 0, 40, 10}, []int{1, 3}, []int{3, 5})
	ran(t, "the coldest", spring(), []int{10, 10, 0, 30, 5}, []int{3, 5}, []int{5, 5})
	for _, x := range []struct {
		name        string
		bloom, ripe int
		truth       []int
		open, done  int
	}{
		{"the document's example", 35, 5, []int{20, 20}, 1, 1},
		{"the first week", 5, 0, []int{5, 5}, 0, 0},
		{"with nothing more to be ripe", 6, 0, []int{5, 5, 5}, 1, 1},
		{"with a little more", 5, 1, []int{5, 5, 5}, 0, 1},
		{"just enough in the last week", 10, 5, []int{5, 5, 5}, 1, 2},
		{"one less in the last week", 10, 6, []int{5, 5, 5}, 1, 3},
		{"never", 16, 0, []int{5, 5, 5}, 3, 3},
		{"weeks without warmth", 1, 1, []int{0, 0, 1, 0, 0, 1}, 2, 5},
		{"no warmth", 1, 0, []int{0, 0}, 2, 2},
		{"a year of a week", 1000, 0, []int{1000}, 0, 0},
		{"a year of a week", 1000, 1, []int{1000}, 0, 1},
		{"a year of a week", 1001, 0, []int{1000}, 1, 1},
		{"the longest year", 19001, 999, slices.Repeat([]int{1000}, 20), 19, 19},
		{"the longest year", 20000, 1, slices.Repeat([]int{1000}, 20), 19, 20},
		{"the longest year", 20001, 0, slices.Repeat([]int{1000}, 20), 20, 20},
		{"the most heat", 30000, 30000, slices.Repeat([]int{1000}, 20), 20, 20},
	} {
		k := season.Kind{Bloom: x.bloom, Weeks: 1, Ripe: x.ripe}
		ran(t, x.name, year(k, exactly(x.truth...)...), x.truth, []int{x.open}, []int{x.done})
	}
}

// P6.2

// left holds the ranges of the sums.
func left(t *testing.T, name string, y season.Year, sights []season.Sight, want []season.Range) {
	t.Helper()
	if l, e := season.Left(y, sights); e != api.OK || !slices.Equal(l, want) {
		t.Errorf("%s: Left of %v with %v: %v, %v, not %v", name, y, sights, l, e, want)
	}
}

func TestLeft(t *testing.T) {
	all := []season.Range{to(10, 20), to(20, 40), to(20, 40), to(50, 80), to(55, 90)}
	for _, x := range []struct {
		name   string
		sights []season.Sight
		want   []season.Range
	}{
		{"without sights", nil, all},
		{"the example", []season.Sight{isShut(0, 1)}, []season.Range{to(10, 20), to(20, 34), to(20, 34), to(50, 74), to(55, 84)}},
		{"open", []season.Sight{isOpen(0, 2)}, []season.Range{to(15, 20), to(35, 40), to(35, 40), to(65, 80), to(70, 90)}},
		{"open in the first week in which it can be", []season.Sight{isOpen(1, 3)}, []season.Range{to(10, 20), to(20, 40), to(20, 40), to(60, 80), to(65, 90)}},
		{"not open at the end", []season.Sight{isShut(1, 4)}, []season.Range{to(10, 14), to(20, 24), to(20, 24), to(50, 54), to(55, 59)}},
		{"what is sure", []season.Sight{isShut(0, 0), isOpen(0, 3), isOpen(0, 4), isShut(1, 2)}, all},
		{"a sight twice", []season.Sight{isShut(0, 1), isShut(0, 1)}, []season.Range{to(10, 20), to(20, 34), to(20, 34), to(50, 74), to(55, 84)}},
		{"two sights", []season.Sight{isShut(1, 3), isShut(0, 1)}, []season.Range{to(10, 19), to(20, 29), to(20, 29), to(50, 59), to(55, 69)}},
		{"in between", []season.Sight{isOpen(1, 4), isShut(1, 3)}, []season.Range{to(10, 19), to(20, 29), to(20, 29), to(50, 59), to(60, 69)}},
	} {
		left(t, x.name, spring(), x.sights, x.want)
		slices.Reverse(x.sights)
		left(t, x.name+", turned", spring(), x.sights, x.want)
	}
	left(t, "one truth", year(season.Kind{Bloom: 3, Weeks: 1}, exactly(1, 0, 1000)...), []season.Sight{isShut(0, 1)}, exactly(1, 1, 1001))
	left(t, "a week", year(season.Kind{Bloom: 3, Weeks: 1}, to(0, 1000)), []season.Sight{isOpen(0, 0)}, []season.Range{to(3, 1000)})
	left(t, "a week", year(season.Kind{Bloom: 1, Weeks: 1}, to(0, 1000)), []season.Sight{isShut(0, 0)}, exactly(0))
	var most []season.Range
	for week := range api.MaxCalendar {
		most = append(most, to(0, 1000*(week+1)))
	}
	left(t, "all that can be", full(), []season.Sight{isShut(0, 19)}, most)
}

// P6.3

// spans holds the ranges of the weeks in which kinds open and are ripe.
func spans(t *testing.T, name string, y season.Year, sights []season.Sight, want ...season.Span) {
	t.Helper()
	if l, e := season.Spans(y, sights); e != api.OK || !slices.Equal(l, want) {
		t.Errorf("%s: Spans of %v with %v: %v, %v, not %v", name, y, sights, l, e, want)
	}
}

func TestSpans(t *testing.T) {
	late := season.Span{Open: to(3, 5), Ripe: to(5, 5)}
	for _, x := range []struct {
		name   string
		sights []season.Sight
		want   [2]season.Span
	}{
		{"the example", nil, [2]season.Span{{Open: to(1, 3), Ripe: to(3, 5)}, late}},
		{"later", []season.Sight{isShut(0, 2)}, [2]season.Span{{Open: to(3, 3), Ripe: to(4, 5)}, late}},
		{"soon", []season.Sight{isOpen(0, 1)}, [2]season.Span{{Open: to(1, 1), Ripe: to(3, 5)}, {Open: to(3, 3), Ripe: to(5, 5)}}},
		{"of the other kind", []season.Sight{isShut(1, 3)}, [2]season.Span{{Open: to(3, 3), Ripe: to(5, 5)}, {Open: to(4, 5), Ripe: to(5, 5)}}},
		{"never", []season.Sight{isShut(1, 4)}, [2]season.Span{{Open: to(3, 3), Ripe: to(5, 5)}, {Open: to(5, 5), Ripe: to(5, 5)}}},
		{"in a week", []season.Sight{isShut(1, 3), isOpen(1, 4)}, [2]season.Span{{Open: to(3, 3), Ripe: to(5, 5)}, {Open: to(4, 4), Ripe: to(5, 5)}}},
	} {
		spans(t, x.name, spring(), x.sights, x.want[:]...)
	}
	steady := func(bloom, more int) season.Year {
		return year(season.Kind{Bloom: bloom, Weeks: 1, Ripe: more}, slices.Repeat([]season.Range{to(1, 2)}, 6)...)
	}
	spans(t, "at once", steady(1, 0), nil, season.Span{})
	spans(t, "soon ripe", steady(2, 0), nil, season.Span{Open: to(0, 1), Ripe: to(0, 1)})
	spans(t, "the sum of both", steady(3, 2), nil, season.Span{Open: to(1, 2), Ripe: to(2, 4)})
	spans(t, "the last week", steady(6, 1), nil, season.Span{Open: to(2, 5), Ripe: to(3, 6)})
	spans(t, "the last week", steady(11, 1), nil, season.Span{Open: to(5, 6), Ripe: to(5, 6)})
	spans(t, "never", steady(13, 0), nil, season.Span{Open: to(6, 6), Ripe: to(6, 6)})
	// A plant that is not open is not ripe.
	spans(t, "never, it is seen", steady(11, 0), []season.Sight{isShut(0, 5)}, season.Span{Open: to(6, 6), Ripe: to(6, 6)})
}

// P6.4

// flowers holds the weeks of flower.
func flowers(t *testing.T, name string, y season.Year, sights []season.Sight, kind int, may, surely []int) {
	t.Helper()
	if a, b, e := season.Flowers(y, sights, kind); e != api.OK || !slices.Equal(a, may) || !slices.Equal(b, surely) {
		t.Errorf("%s: Flowers of %d of %v with %v: %v, %v, %v, not %v, %v", name, kind, y, sights, a, b, e, may, surely)
	}
}

func TestFlowers(t *testing.T) {
	for _, x := range []struct {
		name        string
		sights      []season.Sight
		kind        int
		may, surely []int
	}{
		{"the example", nil, 0, []int{1, 2, 3, 4}, nil},
		{"the example", []season.Sight{isShut(0, 2)}, 0, []int{3, 4}, []int{3, 4}},
		{"soon", []season.Sight{isOpen(0, 1)}, 0, []int{1, 2}, []int{1, 2}},
		{"the other kind", nil, 1, []int{3, 4}, nil},
		{"the other kind", []season.Sight{isOpen(1, 3)}, 1, []int{3}, []int{3}},
		{"the other kind", []season.Sight{isOpen(1, 4)}, 1, []int{3, 4}, nil},
		{"the other kind", []season.Sight{isShut(1, 3)}, 1, []int{4}, nil},
		{"the other kind, by the first one", []season.Sight{isOpen(0, 1)}, 1, []int{3}, []int{3}},
		{"the other kind, never", []season.Sight{isShut(1, 4)}, 1, nil, nil},
	} {
		flowers(t, x.name, spring(), x.sights, x.kind, x.may, x.surely)
	}
	short := year(season.Kind{Bloom: 2, Weeks: 1}, to(1, 2), to(0, 0), to(0, 0), to(1, 1))
	flowers(t, "a gap", short, nil, 0, []int{0, 3}, nil)
	short.Kinds[0].Weeks = 2
	flowers(t, "a gap", short, nil, 0, []int{0, 1, 3}, nil)
	short.Kinds[0].Weeks = 4
	flowers(t, "no gap", short, nil, 0, []int{0, 1, 2, 3}, []int{3})
	steady := func(weeks int) season.Year {
		return year(season.Kind{Bloom: 3, Weeks: weeks}, slices.Repeat([]season.Range{to(1, 2)}, 6)...)
	}
	flowers(t, "a week", steady(1), nil, 0, []int{1, 2}, nil)
	flowers(t, "two weeks", steady(2), nil, 0, []int{1, 2, 3}, []int{2})
	flowers(t, "three weeks", steady(3), nil, 0, []int{1, 2, 3, 4}, []int{2, 3})
	flowers(t, "longer than the year", steady(api.MaxCalendar), nil, 0, []int{1, 2, 3, 4, 5}, []int{2, 3, 4, 5})
	y := steady(3)
	y.Kinds[0].Bloom = 7
	flowers(t, "perhaps never", y, []season.Sight{isShut(0, 5)}, 0, nil, nil)
	y.Kinds[0].Bloom = 13
	flowers(t, "never", y, nil, 0, nil, nil)
	y.Kinds[0].Bloom = 1
	flowers(t, "at once", y, nil, 0, []int{0, 1, 2}, []int{0, 1, 2})
}

// P6.5

// headed holds a heading with the fewest hands.
func headed(t *testing.T, name string, y season.Year, truth []int, fields []season.Field, want int) {
	t.Helper()
	l, n, e := season.Heading(y, truth, fields)
	if e != api.OK || n != want || len(l) != len(fields) {
		t.Errorf("%s: Heading of %v in %v of %v: %v, %d, %v, not %d", name, fields, truth, y, l, n, e, want)
	}
	for _, n := range []int{want, want + 1, math.MaxInt} {
		if !season.ProveHeading(y, truth, fields, l, n) {
			t.Errorf("%s: ProveHeading of %v for %v in %v of %v with %d", name, l, fields, truth, y, n)
		}
	}
	for _, n := range []int{want - 1, -1, math.MinInt} {
		if season.ProveHeading(y, truth, fields, l, n) {
			t.Errorf("%s: ProveHeading of %v for %v in %v of %v with %d", name, l, fields, truth, y, n)
		}
	}
}

// fieldsOf are fields of the kinds in turn, with these rows.
func fieldsOf(kinds int, rows ...int) []season.Field {
	var l []season.Field
	for n, rows := range rows {
		l = append(l, season.Field{Kind: n % kinds, Rows: rows})
	}
	return l
}

func TestHeading(t *testing.T) {
	fields := []season.Field{{Kind: 0, Rows: 3}, {Kind: 0, Rows: 4}, {Kind: 1, Rows: 2}}
	headed(t, "the example", spring(), warm(), fields, 4)
	headed(t, "two fields", spring(), warm(), fields[:2], 4)
	headed(t, "one field", spring(), warm(), fields[:1], 3)
	headed(t, "one more", spring(), warm(), append(slices.Clone(fields), season.Field{Kind: 0, Rows: 2}), 5)
	headed(t, "no fields", spring(), warm(), nil, 0)
	headed(t, "some are not due", spring(), []int{10, 20, 0, 30, 10}, fields, 2)
	headed(t, "none is due", spring(), []int{10, 10, 0, 30, 5}, fields, 0)
	for _, x := range []struct {
		name  string
		head  int
		truth []int
		rows  []int
		want  int
	}{
		{"one week", 1, []int{1, 0}, []int{3, 4, 5}, 12},
		{"two weeks", 2, []int{1, 0, 0}, []int{3, 4, 5}, 7},
		{"three weeks", 3, []int{1, 0, 0, 0}, []int{3, 4, 5}, 5},
		{"four weeks", 4, []int{1, 0, 0, 0, 0}, []int{3, 4, 5}, 5},
		{"not the first that fits", 2, []int{1, 0, 0}, []int{3, 3, 2, 2, 2}, 6},
		{"not the greatest first", 2, []int{1, 0, 0}, []int{2, 2, 2, 3, 3}, 6},
		{"in three weeks", 3, []int{1, 0, 0, 0}, []int{5, 5, 4, 4, 6}, 9},
		{"many rows", 4, []int{1, 0, 0, 0, 0, 0}, []int{100, 100, 100, 100, 100}, 200},
		{"many rows", 1, []int{1, 0}, []int{100, 100, 100, 100, 100}, 500},
		{"up to the last week", 2, []int{0, 1, 0, 0}, []int{1, 2}, 2},
		{"a week less", 2, []int{0, 0, 1, 0}, []int{1, 2}, 0},
		{"no week", 1, []int{0, 0, 0, 1}, []int{1, 2}, 0},
		{"not opened", 1, []int{0, 0, 0, 0}, []int{1, 2}, 0},
		{"not headed", 0, []int{1, 0, 0, 0}, []int{1, 2}, 0},
		{"opened in the last week and not headed", 0, []int{0, 0, 0, 1}, []int{1, 2}, 0},
	} {
		k := season.Kind{Bloom: 1, Weeks: 3, Head: x.head}
		headed(t, x.name, year(k, exactly(x.truth...)...), x.truth, fieldsOf(1, x.rows...), x.want)
	}
	// The weeks of two kinds: 1 and 2, and 2 and 3.
	y := year(season.Kind{Bloom: 1, Weeks: 1, Head: 2}, exactly(1, 1, 0, 0)...)
	y.Kinds = append(y.Kinds, season.Kind{Bloom: 2, Weeks: 1, Head: 2})
	headed(t, "weeks that two kinds share", y, []int{1, 1, 0, 0}, fieldsOf(2, 3, 4), 4)
	headed(t, "weeks that two kinds share", y, []int{1, 1, 0, 0}, fieldsOf(2, 3, 4, 3, 1), 4)
	headed(t, "weeks that two kinds share", y, []int{1, 1, 0, 0}, fieldsOf(2, 3, 3, 4, 2, 2), 5)
	headed(t, "weeks that two kinds share", y, []int{1, 1, 0, 0}, fieldsOf(2, 9, 1, 9, 1, 1), 10)
}

func TestProveHeading(t *testing.T) {
	fields := []season.Field{{Kind: 0, Rows: 3}, {Kind: 0, Rows: 4}, {Kind: 1, Rows: 2}}
	cool := []int{10, 20, 0, 30, 10} // the kind 0 opens in the week 3
	for _, x := range []struct {
		name  string
		truth []int
		weeks []int
		hands int
		want  bool
	}{
		{"the fewest", warm(), []int{2, 3, 4}, 4, true},
		{"the other way round", warm(), []int{3, 2, 4}, 4, true},
		{"too few", warm(), []int{3, 2, 4}, 3, false},
		{"in one week", warm(), []int{2, 2, 4}, 7, true},
		{"in one week, too few", warm(), []int{3, 3, 4}, 6, false},
		{"more", warm(), []int{3, 3, 4}, 8, true},
		{"the week in which it opens", warm(), []int{1, 2, 4}, 99, false},
		{"the week behind", warm(), []int{2, 4, 4}, 99, false},
		{"the week in which the other opens", warm(), []int{2, 3, 3}, 99, false},
		{"no week", warm(), []int{2, 3, -1}, 99, false},
		{"a week behind the year", warm(), []int{2, 3, 5}, 99, false},
		{"great weeks", warm(), []int{2, math.MaxInt, 4}, 99, false},
		{"small weeks", warm(), []int{math.MinInt, 3, 4}, 99, false},
		{"a field less", warm(), []int{2, 3}, 99, false},
		{"a field more", warm(), []int{2, 3, 4, -1}, 99, false},
		{"no field", warm(), nil, 99, false},
		{"not due", cool, []int{-1, -1, 4}, 2, true},
		{"not due, too few", cool, []int{-1, -1, 4}, 1, false},
		{"not due, and headed", cool, []int{4, -1, 4}, 99, false},
		{"not due, and headed in the first week", cool, []int{0, -1, 4}, 99, false},
		{"not due, and headed behind the year", cool, []int{-1, 5, 4}, 99, false},
		{"not due, and before all", cool, []int{-1, -2, 4}, 99, false},
		{"none due", []int{10, 10, 0, 30, 5}, []int{-1, -1, -1}, 0, true},
		{"none due, less than none", []int{10, 10, 0, 30, 5}, []int{-1, -1, -1}, -1, false},
	} {
		if season.ProveHeading(spring(), x.truth, fields, x.weeks, x.hands) != x.want {
			t.Errorf("%s: ProveHeading of %v with %d in %v is not %v", x.name, x.weeks, x.hands, x.truth, x.want)
		}
	}
	if !season.ProveHeading(spring(), warm(), nil, nil, 0) || season.ProveHeading(spring(), warm(), nil, []int{-1}, 0) || season.ProveHeading(spring(), warm(), nil, nil, -1) {
		t.Error("ProveHeading without fields")
	}
}

// P6.6

// enough holds enough hands.
func enough(t *testing.T, name string, y season.Year, sights []season.Sight, fields []season.Field, want int) {
	t.Helper()
	if n, e := season.Enough(y, sights, fields); e != api.OK || n != want {
		t.Errorf("%s: Enough of %v with %v and %v: %d, %v, not %d", name, y, sights, fields, n, e, want)
	}
}

func TestEnough(t *testing.T) {
	fields := []season.Field{{Kind: 0, Rows: 3}, {Kind: 0, Rows: 4}, {Kind: 1, Rows: 2}}
	for _, x := range []struct {
		name   string
		sights []season.Sight
		fields []season.Field
		want   int
	}{
		{"the example", nil, fields, 4},
		{"no fields", nil, nil, 0},
		{"it opens late", []season.Sight{isShut(0, 2)}, fields, 2},
		{"both open late", []season.Sight{isShut(1, 3)}, fields, 0},
		{"it opens soon", []season.Sight{isOpen(0, 1)}, fields[:2], 4},
		{"the other kind", nil, fields[2:], 2},
	} {
		enough(t, x.name, spring(), x.sights, x.fields, x.want)
	}
	// The kind 1 opens in a week behind the kind 0.
	y := year(season.Kind{Bloom: 2, Weeks: 1, Head: 1}, to(0, 2), to(2, 2), to(0, 2), to(0, 0))
	y.Kinds = append(y.Kinds, season.Kind{Bloom: 4, Weeks: 1, Head: 1})
	enough(t, "weeks that two kinds do not share", y, nil, fieldsOf(2, 3, 4), 4)
	y.Weeks[1] = to(1, 2)
	enough(t, "weeks that two kinds do not share, or never open", y, nil, fieldsOf(2, 3, 4), 4)
	y.Kinds[1].Bloom = 3
	enough(t, "weeks that two kinds may share", y, nil, fieldsOf(2, 3, 4), 7)
	enough(t, "weeks that two kinds do not share, it is seen", y, []season.Sight{isOpen(0, 0)}, fieldsOf(2, 3, 4), 4)
	enough(t, "weeks that two kinds do not share, it is seen", y, []season.Sight{isShut(1, 1), isOpen(0, 1)}, fieldsOf(2, 3, 4), 4)
	enough(t, "weeks that two kinds may still share", y, []season.Sight{isShut(1, 1)}, fieldsOf(2, 3, 4), 7)
	enough(t, "the other kind never opens", y, []season.Sight{isShut(1, 2)}, fieldsOf(2, 3, 4), 3)
	// In the warmest and in the coldest truth no two kinds open in one week.
	y = year(season.Kind{Bloom: 4, Weeks: 1, Head: 1}, to(0, 4), to(3, 4), to(0, 0), to(3, 3), to(0, 0))
	y.Kinds = append(y.Kinds, season.Kind{Bloom: 7, Weeks: 1, Head: 1})
	enough(t, "between the ends", y, nil, fieldsOf(2, 1, 1), 2)
	ran(t, "the warmest", y, []int{4, 4, 0, 3, 0}, []int{0, 1}, []int{0, 1})
	ran(t, "the coldest", y, []int{0, 3, 0, 3, 0}, []int{3, 5}, []int{3, 5})
	enough(t, "all kinds in one week", mixed(), nil, fieldsOf(5, 9, 9, 9, 9, 9), 18)
	enough(t, "all fields of a kind", mixed(), nil, fieldsOf(1, 9, 8, 9, 9, 9), 17)
	one := mixed()
	for kind := range one.Kinds {
		one.Kinds[kind].Head = 1
	}
	enough(t, "all kinds in one week, headed in one", one, nil, fieldsOf(5, 100, 100, 100, 100, 100), 500)
	enough(t, "all that can be", full(), nil, fieldsOf(5, 1, 2, 3, 4, 5), 0)
}

// P6.1 to P6.6

// TestModel holds the calls against the model.
func TestModel(t *testing.T) {
	eachSmall(t, 3000, func(r *rand.Rand, y season.Year, sights []season.Sight, truths [][]int) {
		kind, fields := r.Intn(len(y.Kinds)), randomFields(r, y)
		if len(truths) == 0 {
			askedSights(t, y, sights, kind, fields, api.ErrFail)
			return
		}
		all := modelAllOpened(y, truths)
		left(t, "the model", y, sights, modelLeft(y, truths))
		spans(t, "the model", y, sights, modelSpans(y, truths)...)
		for kind := range y.Kinds {
			may, surely := modelFlowers(y, all, kind)
			flowers(t, "the model", y, sights, kind, may, surely)
		}
		enough(t, "the model", y, sights, fields, modelEnough(y, all, fields).Hi)
	})
}

// TestModelTruths holds the calls for a truth against the model.
func TestModelTruths(t *testing.T) {
	eachYear(t, 2000, func(r *rand.Rand, y season.Year, truth []int, _ []season.Sight) {
		var opens, ripens []int
		for kind := range y.Kinds {
			opens = append(opens, modelOpens(y, kind, truth))
			ripens = append(ripens, modelRipens(y, kind, truth))
		}
		ran(t, "the model", y, truth, opens, ripens)
		fields := randomFields(r, y)
		headed(t, "the model", y, truth, fields, modelFewest(y, modelOpened(y, truth), fields))
	})
}

// TestModelHeadings holds ProveHeading against the model, for all weeks that
// could be given to the fields of small years.
func TestModelHeadings(t *testing.T) {
	headings, others := 0, 0
	eachSmall(t, 800, func(r *rand.Rand, y season.Year, sights []season.Sight, truths [][]int) {
		if len(truths) == 0 || len(y.Weeks) > 6 {
			return
		}
		truth, fields := truths[r.Intn(len(truths))], randomFields(r, y)
		fields = fields[:min(len(fields), 3)]
		weeks := make([]int, len(fields))
		var give func(n int, isHeading bool)
		give = func(n int, isHeading bool) {
			if n < len(fields) {
				can := modelCan(y, fields[n].Kind, modelOpens(y, fields[n].Kind, truth))
				for week := -2; week <= len(y.Weeks); week++ {
					weeks[n] = week
					give(n+1, isHeading && slices.Contains(can, week))
				}
				return
			}
			hands := 0
			if isHeading {
				hands = modelHands(fields, weeks)
				headings++
			} else {
				others++
			}
			for _, less := range []int{0, 1} {
				if is := season.ProveHeading(y, truth, fields, weeks, hands-less); is != (isHeading && less == 0) {
					t.Fatalf("ProveHeading of %v for %v in %v of %v with %d: %v", weeks, fields, truth, y, hands-less, is)
				}
			}
		}
		give(0, true)
	})
	if min(headings, others) < 300 {
		t.Errorf("%d headings, %d others", headings, others)
	}
}

// TestModelKnown holds the calls against what can be known of longer years.
func TestModelKnown(t *testing.T) {
	r := rand.New(rand.NewSource(6))
	for i := range 300 {
		y, truth := randomYear(r, middle[i%len(middle)])
		sights, fields := randomSights(r, y, truth, 4), randomFields(r, y)
		last, all := modelKnown(y, sights)
		if l, e := season.Left(y, sights); e != api.OK || l[len(l)-1] != last {
			t.Errorf("Left of %v with %v: %v, %v, not %v at the end", y, sights, l, e, last)
		}
		for kind := range y.Kinds {
			may, surely := modelFlowers(y, all, kind)
			flowers(t, "what is known", y, sights, kind, may, surely)
		}
		enough(t, "what is known", y, sights, fields, modelEnough(y, all, fields).Hi)
		if t.Failed() {
			return
		}
	}
}

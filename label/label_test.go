package label_test

import (
	"math"
	"math/rand"
	"slices"
	"testing"

	"bybloem/api"
	"bybloem/label"
)

func to(low, high int) label.Range { return label.Range{Lo: low, Hi: high} }

// field is the lot of the chapter's examples; its first part was looked at by
// the second trait, too, if it was seen so.
func field(seen ...int) label.Lot {
	return label.Lot{
		Looks: [][]int{{0, 0}, {1, 0}, {0, 1}},
		Parts: []label.Part{
			{Plants: 10, Seen: [][]int{{8, 2, 0, 0}, seen}},
			{Plants: 5, Seen: [][]int{nil, {4, 1, 0, 0}}},
		},
	}
}

// known is the field with a second look at its first part.
func known() label.Lot { return field(9, 1, 0, 0) }

// plain is a lot of kinds that differ by one trait, and of parts with as many
// plants, which were not looked at.
func plain(kinds int, plants ...int) label.Lot {
	var l label.Lot
	for kind := range kinds {
		l.Looks = append(l.Looks, []int{kind})
	}
	for _, n := range plants {
		l.Parts = append(l.Parts, label.Part{Plants: n, Seen: [][]int{nil}})
	}
	return l
}

// widest has as much of all as a lot can have, and the most truths.
func widest() label.Lot {
	l := label.Lot{Looks: [][]int{{0, 0, 0}, {1, 0, 3}, {2, 0, 0}, {3, 3, 0}, {0, 1, 0}}}
	for range api.MaxParts {
		l.Parts = append(l.Parts, label.Part{Plants: api.MaxFlowers, Seen: make([][]int, api.MaxTraits)})
	}
	return l
}

// change is what makes a lot another one.
type change func(l *label.Lot)

func (c change) of(l label.Lot) label.Lot {
	l = copyLot(l)
	c(&l)
	return l
}

// beyond are numbers that are not from low to high.
func beyond(low, high int) []int {
	return []int{low - 1, high + 1, math.MinInt, math.MaxInt}
}

// invalidChanges make the known field no lot.
func invalidChanges() []change {
	l := []change{
		func(l *label.Lot) { *l = label.Lot{} },
		func(l *label.Lot) { l.Looks = nil },
		func(l *label.Lot) { *l = plain(0) },
		func(l *label.Lot) { l.Looks = append(l.Looks, []int{1, 1}, []int{2, 2}, []int{3, 3}) },
		func(l *label.Lot) { *l = label.Lot{Looks: [][]int{{}}} },
		func(l *label.Lot) { *l = label.Lot{Looks: [][]int{{0, 0, 0, 0}}} },
		func(l *label.Lot) { *l = label.Lot{Looks: [][]int{{0, 0, 0, 0}, {0, 0, 0, 1}}} },
		func(l *label.Lot) { l.Looks[0] = nil },
		func(l *label.Lot) { l.Looks[2] = nil },
		func(l *label.Lot) { l.Looks[0] = []int{0} },
		func(l *label.Lot) { l.Looks[2] = []int{0} },
		func(l *label.Lot) { l.Looks[2] = []int{0, 1, 0} },
		func(l *label.Lot) { l.Looks[1] = []int{0, 0} },
		func(l *label.Lot) { l.Looks[2] = []int{0, 0} },
		func(l *label.Lot) { l.Looks[2] = []int{1, 0} },
		func(l *label.Lot) { l.Parts[0] = label.Part{} },
		func(l *label.Lot) { l.Parts[1] = label.Part{} },
		func(l *label.Lot) { l.Parts[0].Plants = 9 },
		func(l *label.Lot) { l.Parts[1].Plants = 6 },
		func(l *label.Lot) { l.Parts[1].Seen = nil },
		func(l *label.Lot) { l.Parts[1].Seen = make([][]int, 1) },
		func(l *label.Lot) { l.Parts[1].Seen = make([][]int, 3) },
	}
	for _, n := range beyond(0, api.MaxLooks-1) {
		l = append(l, func(l *label.Lot) { l.Looks[0][0] = n }, func(l *label.Lot) { l.Looks[2][1] = n })
	}
	for _, n := range beyond(0, api.MaxFlowers) {
		l = append(l,
			func(l *label.Lot) { l.Parts[0].Plants = n },
			func(l *label.Lot) { l.Parts[1].Plants = n },
			func(l *label.Lot) { l.Parts[1] = label.Part{Plants: n, Seen: make([][]int, 2)} },
			func(l *label.Lot) { l.Parts[1] = label.Part{Plants: n, Seen: [][]int{nil, {n, 0, 0, 0}}} })
	}
	for _, seen := range [][]int{
		{10}, {8, 2, 0}, {8, 2, 0, 0, 0}, {0, 0, 0, 0}, {8, 1, 0, 0}, {8, 2, 1, 0}, {8, 2, 0, 1},
		{11, -1, 0, 0}, {-1, 11, 0, 0}, {8, 2, 1, -1},
		{math.MaxInt, math.MaxInt, 12, 0}, {math.MinInt, math.MinInt, 10, 0}, {math.MinInt, math.MaxInt, 11, 0},
	} {
		l = append(l, func(l *label.Lot) { l.Parts[0].Seen[0] = seen }, func(l *label.Lot) { l.Parts[0].Seen[1] = seen })
	}
	return l
}

// badLot is a lot that no call takes, and why.
type badLot struct {
	l    label.Lot
	want api.Errno
}

func badLots() []badLot {
	var l []badLot
	for _, c := range invalidChanges() {
		l = append(l, badLot{c.of(known()), api.ErrArg})
	}
	// The error that the table asks for first.
	for _, c := range []change{
		func(l *label.Lot) { *l = plain(2, 1, 1, 1, 1, 1) },
		func(l *label.Lot) { *l = plain(0, 1, 1, 1, 1, 1) },
		func(l *label.Lot) { l.Parts = make([]label.Part, api.MaxParts+1) },
		func(l *label.Lot) { l.Looks, l.Parts = nil, make([]label.Part, 1000) },
	} {
		l = append(l, badLot{c.of(known()), api.ErrLimit})
	}
	return l
}

// failedLots cannot be, each for another reason.
func failedLots() []label.Lot {
	gap := plain(2, 3, 3)
	gap.Looks = [][]int{{0}, {2}}
	gap.Parts[1].Seen[0] = []int{1, 1, 1, 0}
	odd := label.Lot{
		Looks: [][]int{{0, 0, 0}, {0, 1, 1}, {1, 0, 1}, {1, 1, 0}},
		Parts: []label.Part{{Plants: 3, Seen: [][]int{{2, 1, 0, 0}, {2, 1, 0, 0}, {2, 1, 0, 0}}}},
	}
	return []label.Lot{
		field(1, 9, 0, 0), // nine without the first look by both traits
		field(9, 0, 1, 0), // a look that no kind has
		gap,               // such a look between those that kinds have
		odd,               // as each two traits can be, but not all of them
		withSeen(plain(1, 2), 0, 0, []int{0, 2, 0, 0}),
	}
}

// P4.1

func TestCheckLot(t *testing.T) {
	for _, l := range append(failedLots(), field(), known(), widest(), plain(1), plain(4), plain(2, 0), plain(1, 20, 20, 20, 20),
		label.Lot{Looks: [][]int{{3, 3, 3}}}, withSeen(plain(2, 0), 0, 0, []int{0, 0, 0, 0}), withSeen(plain(2, 20), 0, 0, []int{0, 0, 0, 20})) {
		if e := label.CheckLot(l); e != api.OK {
			t.Errorf("CheckLot of %v: %v", l, e)
		}
	}
	for _, x := range badLots() {
		if e := label.CheckLot(x.l); e != x.want {
			t.Errorf("CheckLot of %v: %v", x.l, e)
		}
	}
}

// asked holds what the calls return for a lot, a kind, a number of it and a
// purity, if they have no result.
func asked(t *testing.T, l label.Lot, kind, many, pure int, want api.Errno) {
	t.Helper()
	if truth, e := label.Find(l, kind, many); e != want || truth != nil {
		t.Errorf("Find for %d and %d of %v: %v, %v", kind, many, l, truth, e)
	}
	if n, e := label.Rogue(l, kind, pure); e != want || n != 0 {
		t.Errorf("Rogue for %d and %d of %v: %d, %v", kind, pure, l, n, e)
	}
	if part, trait, worst, e := label.Next(l, kind); e != want || part != 0 || trait != 0 || worst != 0 {
		t.Errorf("Next for %d of %v: %d, %d, %d, %v", kind, l, part, trait, worst, e)
	}
}

// askedPure holds what the calls with a purity return for it, if they have no
// result.
func askedPure(t *testing.T, l label.Lot, pure int, want api.Errno) {
	t.Helper()
	if surely, perhaps, e := label.Bears(l, pure); e != want || surely != nil || perhaps != nil {
		t.Errorf("Bears for %d of %v: %v, %v, %v", pure, l, surely, perhaps, e)
	}
	if n, e := label.Rogue(l, 0, pure); e != want || n != 0 {
		t.Errorf("Rogue for %d of %v: %d, %v", pure, l, n, e)
	}
}

// refused holds that no call has a result for a lot.
func refused(t *testing.T, l label.Lot, want api.Errno) {
	t.Helper()
	asked(t, l, 0, 0, 500, want)
	askedPure(t, l, 1, want)
	askedPure(t, l, api.MaxPure, want)
	if ranges, e := label.Count(l); e != want || ranges != nil {
		t.Errorf("Count of %v: %v, %v", l, ranges, e)
	}
	if label.ProveTruth(l, [][]int{{7, 2, 1}, {1, 3, 1}}) || label.ProveTruth(l, nil) || label.ProveTruth(l, make([][]int, len(l.Parts))) {
		t.Errorf("ProveTruth of %v", l)
	}
}

func TestRefused(t *testing.T) {
	for _, x := range badLots() {
		refused(t, x.l, x.want)
		for _, n := range beyond(0, 0) {
			asked(t, x.l, n, n, n, x.want)
			askedPure(t, x.l, n, x.want)
		}
	}
	for _, l := range failedLots() {
		refused(t, l, api.ErrFail)
	}
}

func TestRangeErrors(t *testing.T) {
	for _, l := range append(failedLots(), field(), known(), plain(3)) {
		for _, kind := range beyond(0, len(l.Looks)-1) {
			asked(t, l, kind, 0, 500, api.ErrRange)
			asked(t, l, kind, -1, 0, api.ErrRange)
		}
		for _, pure := range beyond(1, api.MaxPure) {
			askedPure(t, l, pure, api.ErrRange)
		}
	}
}

func TestExamples(t *testing.T) {
	for _, x := range []struct {
		l    label.Lot
		want []label.Range
	}{
		{field(), []label.Range{to(0, 12), to(2, 6), to(1, 9)}},
		{known(), []label.Range{to(7, 11), to(2, 6), to(2, 2)}},
	} {
		if l, e := label.Count(x.l); e != api.OK || !slices.Equal(l, x.want) {
			t.Errorf("Count of %v: %v, %v", x.l, l, e)
		}
	}
	if surely, perhaps, e := label.Bears(known(), 450); e != api.OK || !slices.Equal(surely, []int{0}) || !slices.Equal(perhaps, []int{0}) {
		t.Errorf("Bears: %v, %v, %v", surely, perhaps, e)
	}
	if n, e := label.Rogue(known(), 0, 550); e != api.OK || n != 3 {
		t.Errorf("Rogue: %d, %v", n, e)
	}
	if truth, e := label.Find(known(), 0, 6); e != api.ErrNone || truth != nil {
		t.Errorf("Find of 6: %v, %v", truth, e)
	}
	if part, trait, worst, e := label.Next(known(), 0); e != api.OK || part != 1 || trait != 0 || worst != 0 {
		t.Errorf("Next: %d, %d, %d, %v", part, trait, worst, e)
	}
	if part, trait, worst, e := label.Next(field(), 0); e != api.OK || part != 0 || trait != 1 || worst != 4 {
		t.Errorf("Next of the lot as it was: %d, %d, %d, %v", part, trait, worst, e)
	}
	if !label.ProveTruth(known(), [][]int{{7, 2, 1}, {1, 3, 1}}) {
		t.Error("ProveTruth is false")
	}
}

// TestCount has the ranges of lots that are at some end.
func TestCount(t *testing.T) {
	four := label.Lot{
		Looks: [][]int{{0, 0, 0}, {0, 1, 1}, {1, 0, 1}, {1, 1, 0}},
		Parts: []label.Part{{Plants: 4, Seen: [][]int{{2, 2, 0, 0}, {2, 2, 0, 0}, nil}}},
	}
	for _, x := range []struct {
		name string
		l    label.Lot
		want []label.Range
	}{
		{"no parts", plain(2), []label.Range{to(0, 0), to(0, 0)}},
		{"a part without plants", plain(2, 0), []label.Range{to(0, 0), to(0, 0)}},
		{"such a part, looked at", withSeen(plain(2, 0), 0, 0, []int{0, 0, 0, 0}), []label.Range{to(0, 0), to(0, 0)}},
		{"one kind", plain(1, 7, 0, 20, 1), []label.Range{to(28, 28)}},
		{"not looked at", plain(3, 7, 2), []label.Range{to(0, 9), to(0, 9), to(0, 9)}},
		{"one of two was", withSeen(plain(3, 7, 2), 0, 0, []int{4, 0, 3, 0}), []label.Range{to(4, 6), to(0, 2), to(3, 5)}},
		{"all that can be", widest(), []label.Range{to(0, 80), to(0, 80), to(0, 80), to(0, 80), to(0, 80)}},
		{"by two traits of three", four, []label.Range{to(0, 2), to(0, 2), to(0, 2), to(0, 2)}},
		{"by all three", withSeen(four, 0, 2, []int{2, 2, 0, 0}), []label.Range{to(1, 1), to(1, 1), to(1, 1), to(1, 1)}},
		{"by all three", withSeen(four, 0, 2, []int{0, 4, 0, 0}), []label.Range{to(0, 0), to(2, 2), to(2, 2), to(0, 0)}},
	} {
		if l, e := label.Count(x.l); e != api.OK || !slices.Equal(l, x.want) {
			t.Errorf("%s: Count: %v, %v", x.name, l, e)
		}
	}
}

// P4.2

func TestBears(t *testing.T) {
	half := withSeen(plain(3, 10), 0, 0, []int{5, 5, 0, 0})
	for _, x := range []struct {
		name            string
		l               label.Lot
		pure            int
		surely, perhaps []int
	}{
		{"the example", known(), 450, []int{0}, []int{0}},
		{"the example", known(), 700, nil, []int{0}},
		// 7 to 11 of 15 are of the kind 0, 2 to 6 of the kind 1, 2 of the kind 2.
		{"the ends", known(), 466, []int{0}, []int{0}},
		{"the ends", known(), 467, nil, []int{0}},
		{"the ends", known(), 733, nil, []int{0}},
		{"the ends", known(), 734, nil, nil},
		{"the ends", known(), 400, []int{0}, []int{0, 1}},
		{"the ends", known(), 401, []int{0}, []int{0}},
		{"the ends", known(), 133, []int{0, 1, 2}, []int{0, 1, 2}},
		{"the ends", known(), 134, []int{0}, []int{0, 1}},
		{"the ends", known(), 1, []int{0, 1, 2}, []int{0, 1, 2}},
		{"just enough", half, 500, []int{0, 1}, []int{0, 1}},
		{"just not enough", half, 501, nil, nil},
		{"none of a kind", half, 1, []int{0, 1}, []int{0, 1}},
		{"no plants", plain(2), 1000, []int{0, 1}, []int{0, 1}},
		{"no plants", plain(2, 0, 0), 1000, []int{0, 1}, []int{0, 1}},
		{"one kind", plain(1, 3), 1000, []int{0}, []int{0}},
		{"nothing is known", plain(2, 3), 1000, nil, []int{0, 1}},
		{"nothing is known", plain(2, 3), 1, nil, []int{0, 1}},
	} {
		if a, b, e := label.Bears(x.l, x.pure); e != api.OK || !slices.Equal(a, x.surely) || !slices.Equal(b, x.perhaps) {
			t.Errorf("%s: Bears for %d: %v, %v, %v", x.name, x.pure, a, b, e)
		}
	}
}

// P4.3

// found holds that of the numbers from below low to above high there is a truth
// just with these numbers of the kind.
func found(t *testing.T, l label.Lot, kind int, r label.Range, isPossible func(many int) bool) {
	t.Helper()
	for many := r.Lo - 2; many <= r.Hi+2; many++ {
		truth, e := label.Find(l, kind, many)
		switch {
		case !isPossible(many):
			if e != api.ErrNone || truth != nil {
				t.Errorf("Find of %d of the kind %d in %v: %v, %v", many, kind, l, truth, e)
			}
		case e != api.OK || !label.ProveTruth(l, truth) || modelNumber(truth, kind) != many:
			t.Errorf("Find of %d of the kind %d in %v: %v, %v", many, kind, l, truth, e)
		}
	}
}

func TestFind(t *testing.T) {
	for kind, r := range []label.Range{to(7, 11), to(2, 6), to(2, 2)} {
		found(t, known(), kind, r, func(many int) bool { return r.Lo <= many && many <= r.Hi })
	}
	for _, many := range []int{math.MinInt, math.MinInt + 1, math.MaxInt - 1, math.MaxInt} {
		for _, l := range []label.Lot{known(), plain(2), widest()} {
			if truth, e := label.Find(l, 0, many); e != api.ErrNone || truth != nil {
				t.Errorf("Find of %d: %v, %v", many, truth, e)
			}
		}
	}
	if truth, e := label.Find(plain(2), 1, 0); e != api.OK || len(truth) != 0 {
		t.Errorf("Find without parts: %v, %v", truth, e)
	}
	if truth, e := label.Find(plain(2, 0, 1), 1, 1); e != api.OK || len(truth) != 2 || !slices.Equal(truth[0], []int{0, 0}) || !slices.Equal(truth[1], []int{0, 1}) {
		t.Errorf("Find with a part without plants: %v, %v", truth, e)
	}
}

// TestGaps has lots of which not each number in the range of a kind is possible.
func TestGaps(t *testing.T) {
	part := label.Part{Plants: 3, Seen: [][]int{{2, 1, 0, 0}, {2, 1, 0, 0}, {2, 1, 0, 0}}}
	l := label.Lot{Looks: gapped(), Parts: []label.Part{part}}
	found(t, l, 0, to(0, 2), func(many int) bool { return many == 0 || many == 2 })
	found(t, l, 4, to(0, 1), func(many int) bool { return many == 0 || many == 1 })
	l.Parts = append(l.Parts, part, part)
	found(t, l, 0, to(0, 6), func(many int) bool { return many >= 0 && many <= 6 && many%2 == 0 })
	// A part that fills the gaps stands behind those that have them.
	l.Parts = append(l.Parts, label.Part{Plants: 2, Seen: make([][]int, 3)})
	found(t, l, 0, to(0, 8), func(many int) bool { return many >= 0 && many <= 8 })
}

func TestProveTruth(t *testing.T) {
	open := plain(3, 10)
	for _, x := range []struct {
		name  string
		l     label.Lot
		truth [][]int
		want  bool
	}{
		{"a truth", known(), [][]int{{7, 2, 1}, {1, 3, 1}}, true},
		{"another one", known(), [][]int{{7, 2, 1}, {4, 0, 1}}, true},
		{"one look too many", known(), [][]int{{6, 3, 1}, {1, 3, 1}}, false},
		{"one look too few", known(), [][]int{{8, 1, 1}, {1, 3, 1}}, false},
		{"another second trait", known(), [][]int{{8, 2, 0}, {1, 3, 1}}, false},
		{"wrong in the second part", known(), [][]int{{7, 2, 1}, {1, 4, 0}}, false},
		{"too many plants", known(), [][]int{{7, 2, 1}, {1, 3, 2}}, false},
		{"too few plants", known(), [][]int{{7, 2, 1}, {1, 2, 1}}, false},
		{"below 0", known(), [][]int{{7, 2, 1}, {5, -1, 1}}, false},
		{"the parts in another order", known(), [][]int{{1, 3, 1}, {7, 2, 1}}, false},
		{"a part too few", known(), [][]int{{7, 2, 1}}, false},
		{"a part too many", known(), [][]int{{7, 2, 1}, {1, 3, 1}, {0, 0, 0}}, false},
		{"a part too many", known(), [][]int{{7, 2, 1}, {1, 3, 1}, nil}, false},
		{"a kind too few", known(), [][]int{{7, 2, 1}, {1, 4}}, false},
		{"a kind too many", known(), [][]int{{7, 2, 1}, {1, 3, 1, 0}}, false},
		{"no numbers", known(), [][]int{nil, nil}, false},
		{"nothing", known(), nil, false},
		{"not looked at", open, [][]int{{10, 0, 0}}, true},
		{"not looked at", open, [][]int{{3, 3, 4}}, true},
		{"not looked at, too few", open, [][]int{{3, 3, 3}}, false},
		{"not looked at, too many", open, [][]int{{3, 3, 5}}, false},
		{"not looked at, below 0", open, [][]int{{11, -1, 0}}, false},
		{"not looked at, below 0", open, [][]int{{-1, 11, 0}}, false},
		{"beyond all numbers", open, [][]int{{math.MaxInt, math.MaxInt, 12}}, false},
		{"beyond all numbers", open, [][]int{{math.MinInt, math.MinInt, 10}}, false},
		{"beyond all numbers", open, [][]int{{math.MinInt, math.MaxInt, 11}}, false},
		{"no parts", plain(2), nil, true},
		{"no parts", plain(2), [][]int{}, true},
		{"no parts, but a list", plain(2), [][]int{nil}, false},
		{"no plants", plain(2, 0), [][]int{{0, 0}}, true},
		{"no plants, but a list", plain(2, 0), [][]int{nil}, false},
	} {
		if label.ProveTruth(x.l, x.truth) != x.want {
			t.Errorf("%s: ProveTruth of %v is %v", x.name, x.truth, !x.want)
		}
	}
}

// P4.4

func TestRogue(t *testing.T) {
	one := withSeen(plain(3, 5), 0, 0, []int{2, 3, 0, 0})
	both := label.Lot{ // 3 can be told by the first trait, other 3 by the second one, but not 6
		Looks: [][]int{{0, 0}, {1, 0}, {0, 1}},
		Parts: []label.Part{{Plants: 10, Seen: [][]int{{7, 3, 0, 0}, {7, 3, 0, 0}}}},
	}
	each := label.Lot{ // 3 can be told by the first trait in one part, 3 by the second one in the other
		Looks: both.Looks,
		Parts: []label.Part{{Plants: 5, Seen: [][]int{{2, 3, 0, 0}, {5, 0, 0, 0}}}, {Plants: 5, Seen: [][]int{{5, 0, 0, 0}, {2, 3, 0, 0}}}},
	}
	for _, x := range []struct {
		name             string
		l                label.Lot
		kind, pure, want int
		e                api.Errno
	}{
		{"the example", known(), 0, 450, 0, api.OK},
		{"the example", known(), 0, 550, 3, api.OK},
		{"the example", known(), 0, 600, 0, api.ErrNone},
		{"the ends", known(), 0, 466, 0, api.OK},
		{"the ends", known(), 0, 467, 1, api.OK},
		{"the ends", known(), 0, 500, 1, api.OK},
		{"the ends", known(), 0, 501, 2, api.OK},
		{"the ends", known(), 0, 538, 2, api.OK},
		{"the ends", known(), 0, 539, 3, api.OK},
		{"the ends", known(), 0, 583, 3, api.OK},
		{"the ends", known(), 0, 584, 0, api.ErrNone},
		{"another kind", known(), 1, 133, 0, api.OK},
		{"another kind", known(), 1, 134, 1, api.OK},
		{"another kind", known(), 2, 1000, 13, api.OK},
		{"all but one kind", one, 0, 1000, 3, api.OK},
		{"all plants", one, 2, 1, 5, api.OK},
		{"all plants", one, 2, 1000, 5, api.OK},
		{"not looked at", plain(2, 5), 0, 1, 0, api.ErrNone},
		{"no plants", plain(2), 1, 1000, 0, api.OK},
		{"no plants", plain(2, 0), 1, 1000, 0, api.OK},
		{"one kind", plain(1, 5), 0, 1000, 0, api.OK},
		{"by one trait", both, 0, 571, 3, api.OK}, // 4 of 7
		{"by one trait", both, 0, 572, 0, api.ErrNone},
		{"by one trait in each part", each, 0, 1000, 6, api.OK},
	} {
		if n, e := label.Rogue(x.l, x.kind, x.pure); n != x.want || e != x.e {
			t.Errorf("%s: Rogue for %d and %d: %d, %v", x.name, x.kind, x.pure, n, e)
		}
	}
}

// P4.5

func TestNext(t *testing.T) {
	none := withSeen(plain(2, 3), 0, 0, []int{1, 2, 0, 0})
	alike := label.Lot{ // the second trait tells as much as the third one, the first one nothing
		Looks: [][]int{{0, 0, 1}, {0, 1, 0}},
		Parts: []label.Part{{Plants: 4, Seen: make([][]int, 3)}, {Plants: 4, Seen: make([][]int, 3)}},
	}
	for _, x := range []struct {
		name string
		l    label.Lot
		kind int
		want next
		e    api.Errno
	}{
		{"the examples", known(), 0, next{1, 0, 0}, api.OK},
		{"the examples", field(), 0, next{0, 1, 4}, api.OK},
		{"another kind", field(), 1, next{1, 0, 0}, api.OK},
		{"another kind", field(), 2, next{0, 1, 0}, api.OK},
		{"another kind", known(), 2, next{1, 0, 0}, api.OK},
		{"the first of two traits", alike, 0, next{0, 1, 4}, api.OK},
		{"the first of two parts", plain(2, 3, 3), 0, next{0, 0, 3}, api.OK},
		{"the greater part", plain(2, 3, 4), 0, next{1, 0, 3}, api.OK},
		{"a part without plants", plain(2, 0), 0, next{0, 0, 0}, api.OK},
		{"a part without plants, and one with", plain(2, 0, 1), 0, next{1, 0, 0}, api.OK},
		{"one kind", plain(1, 9, 9), 0, next{0, 0, 0}, api.OK},
		{"nothing to tell", label.Lot{Looks: [][]int{{0, 0}, {0, 1}}, Parts: []label.Part{{Plants: 6, Seen: [][]int{nil, {2, 4, 0, 0}}}}}, 1, next{0, 0, 0}, api.OK},
		{"all was looked at", none, 0, next{}, api.ErrNone},
		{"no parts", plain(2), 0, next{}, api.ErrNone},
		{"a part without plants, looked at", withSeen(plain(2, 0), 0, 0, []int{0, 0, 0, 0}), 1, next{}, api.ErrNone},
	} {
		if part, trait, worst, e := label.Next(x.l, x.kind); (next{part, trait, worst}) != x.want || e != x.e {
			t.Errorf("%s: Next for %d: %d, %d, %d, %v", x.name, x.kind, part, trait, worst, e)
		}
	}
}

// P4.6

func sameLot(a, b label.Lot) bool {
	sameLists := func(a, b [][]int) bool { return slices.EqualFunc(a, b, slices.Equal) }
	samePart := func(a, b label.Part) bool { return a.Plants == b.Plants && sameLists(a.Seen, b.Seen) }
	return sameLists(a.Looks, b.Looks) && slices.EqualFunc(a.Parts, b.Parts, samePart)
}

func TestJoin(t *testing.T) {
	other := known()
	other.Parts = append(other.Parts[:0], other.Parts[1], label.Part{Plants: 20, Seen: make([][]int, 2)}, label.Part{Seen: make([][]int, 2)})
	bare := change(func(l *label.Lot) { l.Parts = nil }).of(field())
	cannot := field(1, 9, 0, 0)
	for _, x := range []struct{ a, b label.Lot }{{field(), known()}, {known(), field()}, {bare, other}, {other, bare}, {bare, bare}, {cannot, field()}, {known(), cannot}} {
		want := label.Lot{Looks: known().Looks, Parts: slices.Concat(x.a.Parts, x.b.Parts)}
		if l, e := label.Join(x.a, x.b); e != api.OK || !sameLot(l, want) {
			t.Errorf("Join of %v and %v: %v, %v", x.a, x.b, l, e)
		}
	}
}

func TestJoinErrors(t *testing.T) {
	looks := func(looks ...[]int) change { return func(l *label.Lot) { *l = label.Lot{Looks: looks} } }
	three := change(func(l *label.Lot) { l.Parts = append(l.Parts, l.Parts[0]) }).of(known())
	for _, x := range []struct {
		name string
		a, b label.Lot
		want api.Errno
	}{
		{"another order", known(), looks([]int{0, 0}, []int{0, 1}, []int{1, 0}).of(known()), api.ErrArg},
		{"a kind less", known(), looks([]int{0, 0}, []int{1, 0}).of(known()), api.ErrArg},
		{"a kind more", known(), looks([]int{0, 0}, []int{1, 0}, []int{0, 1}, []int{1, 1}).of(known()), api.ErrArg},
		{"another kind", known(), looks([]int{0, 0}, []int{1, 0}, []int{0, 2}).of(known()), api.ErrArg},
		{"a trait less", known(), plain(3), api.ErrArg},
		{"other kinds, and too many parts", three, plain(2, 1, 1), api.ErrArg},
		{"too many parts", three, known(), api.ErrLimit},
		{"too many parts", known(), three, api.ErrLimit},
		{"too many parts", three, three, api.ErrLimit},
	} {
		if l, e := label.Join(x.a, x.b); e != x.want || !sameLot(l, label.Lot{}) {
			t.Errorf("%s: Join: %v, %v", x.name, l, e)
		}
	}
	for _, bad := range badLots() {
		for _, other := range []label.Lot{known(), plain(2), widest()} {
			if l, e := label.Join(bad.l, other); e != bad.want || !sameLot(l, label.Lot{}) {
				t.Errorf("Join of %v: %v, %v", bad.l, l, e)
			}
			if l, e := label.Join(other, bad.l); e != bad.want || !sameLot(l, label.Lot{}) {
				t.Errorf("Join with %v: %v, %v", bad.l, l, e)
			}
		}
	}
	// The question about the parts of both lots stands ahead of all others.
	invalid, long := label.Lot{}, plain(2, 1, 1, 1, 1, 1)
	for _, pair := range [][2]label.Lot{{invalid, long}, {long, invalid}, {long, long}} {
		if _, e := label.Join(pair[0], pair[1]); e != api.ErrLimit {
			t.Errorf("Join of %v and %v: %v", pair[0], pair[1], e)
		}
	}
}

// P4.1 to P4.5

// TestModel holds the calls against the model.
func TestModel(t *testing.T) {
	eachSmall(t, 3000, func(r *rand.Rand, l label.Lot, truths [][][]int) {
		if e := label.CheckLot(l); e != api.OK {
			t.Errorf("CheckLot of %v: %v", l, e)
		}
		if len(truths) == 0 {
			refused(t, l, api.ErrFail)
			return
		}
		pure := 1 + r.Intn(api.MaxPure)
		wantSurely, wantPerhaps := modelBears(l, truths, pure)
		if surely, perhaps, e := label.Bears(l, pure); e != api.OK || !slices.Equal(surely, wantSurely) || !slices.Equal(perhaps, wantPerhaps) {
			t.Errorf("Bears for %d of %v: %v, %v, %v; not %v, %v", pure, l, surely, perhaps, e, wantSurely, wantPerhaps)
		}
		ranges, e := label.Count(l)
		if e != api.OK || len(ranges) != len(l.Looks) {
			t.Fatalf("Count of %v: %v, %v", l, ranges, e)
		}
		for kind := range l.Looks {
			if want := modelRange(truths, kind); ranges[kind] != want {
				t.Errorf("Count of %v for %d: %v, not %v", l, kind, ranges[kind], want)
			}
			modelKind(t, l, truths, kind, pure)
		}
	})
}

// modelKind holds the calls that ask for a kind against the model.
func modelKind(t *testing.T, l label.Lot, truths [][][]int, kind, pure int) {
	t.Helper()
	numbers := modelNumbers(truths, kind)
	found(t, l, kind, modelRange(truths, kind), func(many int) bool { return slices.Contains(numbers, many) })
	want, can := modelRogue(l, truths, kind, pure)
	if n, e := label.Rogue(l, kind, pure); n != want || (e == api.OK) != can || !can && e != api.ErrNone {
		t.Errorf("Rogue for %d and %d of %v: %d, %v; not %d, %v", kind, pure, l, n, e, want, can)
	}
	best, found := modelNext(l, truths, kind)
	if part, trait, worst, e := label.Next(l, kind); (next{part, trait, worst}) != best || (e == api.OK) != found || !found && e != api.ErrNone {
		t.Errorf("Next for %d of %v: %d, %d, %d, %v; not %v, %v", kind, l, part, trait, worst, e, best, found)
	}
}

func TestModelTruths(t *testing.T) {
	eachSmall(t, 1000, func(_ *rand.Rand, l label.Lot, truths [][][]int) {
		all := copyLot(l)
		for n := range all.Parts {
			clear(all.Parts[n].Seen)
		}
		count := 0
		for _, truth := range modelTruths(all) {
			if label.ProveTruth(l, truth) {
				count++
			}
		}
		for _, truth := range truths {
			if !label.ProveTruth(l, truth) {
				t.Errorf("ProveTruth of %v in %v is false", truth, l)
			}
		}
		if count != len(truths) {
			t.Errorf("%d truths of %v are proved, not %d", count, l, len(truths))
		}
	})
}

package label_test

import (
	"math/rand"
	"slices"
	"testing"

	"bybloem/api"
	"bybloem/label"
)

func mustCount(t *testing.T, l label.Lot) []label.Range {
	t.Helper()
	ranges, e := label.Count(l)
	if e != api.OK || len(ranges) != len(l.Looks) {
		t.Fatalf("Count of %v: %v, %v", l, ranges, e)
	}
	return ranges
}

func mustBears(t *testing.T, l label.Lot, pure int) (surely, perhaps []int) {
	t.Helper()
	surely, perhaps, e := label.Bears(l, pure)
	if e != api.OK {
		t.Fatalf("Bears for %d of %v: %v, %v, %v", pure, l, surely, perhaps, e)
	}
	return surely, perhaps
}

func mustFind(t *testing.T, l label.Lot, kind, many int) [][]int {
	t.Helper()
	truth, e := label.Find(l, kind, many)
	if e != api.OK || !label.ProveTruth(l, truth) || modelNumber(truth, kind) != many {
		t.Fatalf("Find of %d of the kind %d in %v: %v, %v", many, kind, l, truth, e)
	}
	return truth
}

// purities are some of which the numbers of a lot may be just enough.
func purities(r *rand.Rand) []int {
	return []int{1, 1 + r.Intn(api.MaxPure), 1 + r.Intn(api.MaxPure), 1 + r.Intn(api.MaxPure/4), 250, 500, api.MaxPure}
}

// P4.7

func TestAnyTruth(t *testing.T) {
	eachLot(t, 400, func(r *rand.Rand, l label.Lot, truth [][]int) {
		if !label.ProveTruth(l, truth) {
			t.Errorf("ProveTruth of %v in %v", truth, l)
		}
		for kind, x := range mustCount(t, l) {
			if n := modelNumber(truth, kind); n < x.Lo || n > x.Hi {
				t.Errorf("%d are of the kind %d, not %v, with %v in %v", n, kind, x, truth, l)
			}
		}
		for _, pure := range purities(r) {
			surely, perhaps := mustBears(t, l, pure)
			for kind := range l.Looks {
				has := modelHas(l, truth, kind, pure, 0)
				if slices.Contains(surely, kind) && !has || has && !slices.Contains(perhaps, kind) {
					t.Errorf("the name of the kind %d is had surely by %v, perhaps by %v, for %d, with %v in %v", kind, surely, perhaps, pure, truth, l)
				}
			}
		}
	})
}

// P4.8

func TestEachEnd(t *testing.T) {
	eachLot(t, 200, func(_ *rand.Rand, l label.Lot, _ [][]int) {
		for kind, x := range mustCount(t, l) {
			mustFind(t, l, kind, x.Lo)
			mustFind(t, l, kind, x.Hi)
			for _, many := range beyond(x.Lo, x.Hi) {
				if truth, e := label.Find(l, kind, many); e != api.ErrNone || truth != nil {
					t.Errorf("Find of %d of the kind %d in %v: %v, %v", many, kind, l, truth, e)
				}
			}
		}
	})
}

// P4.9

func TestNoWrongName(t *testing.T) {
	eachLot(t, 200, func(r *rand.Rand, l label.Lot, _ [][]int) {
		ranges := mustCount(t, l)
		for _, pure := range purities(r) {
			surely, perhaps := mustBears(t, l, pure)
			if !isRising(surely) || !isRising(perhaps) {
				t.Errorf("Bears for %d of %v: %v, %v", pure, l, surely, perhaps)
			}
			for kind, x := range ranges {
				least, most := mustFind(t, l, kind, x.Lo), mustFind(t, l, kind, x.Hi)
				if slices.Contains(surely, kind) != modelHas(l, least, kind, pure, 0) {
					t.Errorf("the name of the kind %d is surely had: %v, for %d, with %v in %v", kind, surely, pure, least, l)
				}
				if slices.Contains(perhaps, kind) != modelHas(l, most, kind, pure, 0) {
					t.Errorf("the name of the kind %d is perhaps had: %v, for %d, with %v in %v", kind, perhaps, pure, most, l)
				}
			}
		}
	})
}

func isRising(l []int) bool {
	return slices.IsSorted(l) && len(slices.Compact(slices.Clone(l))) == len(l)
}

// P4.10

func TestDug(t *testing.T) {
	needed, tooFew := 0, 0
	eachLot(t, 200, func(r *rand.Rand, l label.Lot, _ [][]int) {
		ranges := mustCount(t, l)
		for _, pure := range purities(r) {
			surely, _ := mustBears(t, l, pure)
			for kind, x := range ranges {
				least := mustFind(t, l, kind, x.Lo)
				can := modelDug(l, kind)
				n, e := label.Rogue(l, kind, pure)
				switch {
				case e == api.ErrNone:
					tooFew++
					if modelHas(l, least, kind, pure, can[len(can)-1]) {
						t.Errorf("Rogue for %d and %d of %v: %v, but %v can be dug", kind, pure, l, e, can)
					}
				case e != api.OK || !slices.Contains(can, n) || !modelHas(l, least, kind, pure, n):
					t.Errorf("Rogue for %d and %d of %v: %d, %v", kind, pure, l, n, e)
				case n > 0:
					needed++
					if modelHas(l, least, kind, pure, n-1) {
						t.Errorf("Rogue for %d and %d of %v: %d, one less is enough", kind, pure, l, n)
					}
				}
				if (e == api.OK && n == 0) != slices.Contains(surely, kind) {
					t.Errorf("Rogue for %d and %d of %v: %d, %v, with the names %v", kind, pure, l, n, e, surely)
				}
			}
		}
	})
	if min(needed, tooFew) < 100 {
		t.Errorf("rogues were needed %d times, too few %d times", needed, tooFew)
	}
}

// P4.11

// eachNotLooked calls back with each part and trait by which a lot was not
// looked at.
func eachNotLooked(l label.Lot, back func(part, trait int)) {
	for part, p := range l.Parts {
		for trait, seen := range p.Seen {
			if len(seen) == 0 {
				back(part, trait)
			}
		}
	}
}

func TestInspections(t *testing.T) {
	eachLot(t, 200, func(_ *rand.Rand, l label.Lot, truth [][]int) {
		before := mustCount(t, l)
		eachNotLooked(l, func(part, trait int) {
			after := withSeen(l, part, trait, modelTold(l, trait, truth[part]))
			for kind, x := range mustCount(t, after) {
				if x.Lo < before[kind].Lo || x.Hi > before[kind].Hi {
					t.Errorf("the range of the kind %d is %v, not %v any more, once %v is %v", kind, x, before[kind], l, after)
				}
			}
		})
		for kind := range l.Looks {
			part, trait, worst, e := label.Next(l, kind)
			if e == api.ErrNone {
				continue
			}
			if e != api.OK || len(l.Parts[part].Seen[trait]) > 0 {
				t.Fatalf("Next for %d of %v: %d, %d, %d, %v", kind, l, part, trait, worst, e)
			}
			after := withSeen(l, part, trait, modelTold(l, trait, truth[part]))
			if x := mustCount(t, after)[kind]; x.Hi-x.Lo > worst {
				t.Errorf("the range of the kind %d is %v, the worst of %d, %d is %d, in %v", kind, x, part, trait, worst, l)
			}
		}
	})
}

// worstOf looks at the lot that each inspection of a part by a trait may leave.
func worstOf(t *testing.T, l label.Lot, part, trait, kind int) int {
	t.Helper()
	worst := 0
	eachMix(api.MaxLooks, l.Parts[part].Plants, func(seen []int) {
		after := withSeen(l, part, trait, seen)
		ranges, e := label.Count(after)
		switch e {
		case api.OK:
			worst = max(worst, ranges[kind].Hi-ranges[kind].Lo)
		case api.ErrFail: // it cannot tell this
		default:
			t.Fatalf("Count of %v: %v", after, e)
		}
	})
	return worst
}

func TestWorst(t *testing.T) {
	eachSmall(t, 600, func(r *rand.Rand, l label.Lot, truths [][][]int) {
		if len(truths) == 0 {
			return
		}
		kind := r.Intn(len(l.Looks))
		var best next
		found := false
		eachNotLooked(l, func(part, trait int) {
			if worst := worstOf(t, l, part, trait, kind); !found || worst < best.worst {
				best, found = next{part, trait, worst}, true
			}
		})
		part, trait, worst, e := label.Next(l, kind)
		if (e == api.OK) != found || (next{part, trait, worst}) != best {
			t.Errorf("Next for %d of %v: %d, %d, %d, %v; not %v", kind, l, part, trait, worst, e, best)
		}
	})
}

// P4.12

// isPartOf tells whether each of the kinds is one of the others.
func isPartOf(kinds, others []int) bool {
	isOther := func(kind int) bool { return slices.Contains(others, kind) }
	for _, kind := range kinds {
		if !isOther(kind) {
			return false
		}
	}
	return true
}

func TestPurity(t *testing.T) {
	eachLot(t, 100, func(r *rand.Rand, l label.Lot, _ [][]int) {
		pures := append(purities(r), 999, 2, 501)
		slices.Sort(pures)
		for n, pure := range pures[1:] {
			before := pures[n]
			surely, perhaps := mustBears(t, l, pure)
			surelyBefore, perhapsBefore := mustBears(t, l, before)
			if !isPartOf(surely, surelyBefore) || !isPartOf(perhaps, perhapsBefore) || !isPartOf(surely, perhaps) {
				t.Errorf("Bears of %v for %d: %v, %v; for %d: %v, %v", l, before, surelyBefore, perhapsBefore, pure, surely, perhaps)
			}
			for kind := range l.Looks {
				rogues, e := label.Rogue(l, kind, pure)
				roguesBefore, eBefore := label.Rogue(l, kind, before)
				if eBefore != api.OK && e == api.OK || e == api.OK && rogues < roguesBefore {
					t.Errorf("Rogue for %d of %v for %d: %d, %v; for %d: %d, %v", kind, l, before, roguesBefore, eBefore, pure, rogues, e)
				}
			}
		}
	})
}

// P4.13

func TestJoined(t *testing.T) {
	eachLot(t, 400, func(r *rand.Rand, l label.Lot, _ [][]int) {
		cut := r.Intn(len(l.Parts) + 1)
		a, b := copyLot(l), copyLot(l)
		a.Parts, b.Parts = a.Parts[:cut], b.Parts[cut:]
		joined, e := label.Join(a, b)
		if e != api.OK || !sameLot(joined, l) {
			t.Errorf("Join of %v and %v: %v, %v", a, b, joined, e)
		}
		ranges, rangesA, rangesB := mustCount(t, joined), mustCount(t, a), mustCount(t, b)
		for kind, x := range ranges {
			if want := to(rangesA[kind].Lo+rangesB[kind].Lo, rangesA[kind].Hi+rangesB[kind].Hi); x != want {
				t.Errorf("the range of the kind %d is %v, not %v, in %v", kind, x, want, joined)
			}
		}
	})
}

func TestPartsInAnotherOrder(t *testing.T) {
	eachLot(t, 200, func(r *rand.Rand, l label.Lot, _ [][]int) {
		other := copyLot(l)
		r.Shuffle(len(other.Parts), func(i, j int) { other.Parts[i], other.Parts[j] = other.Parts[j], other.Parts[i] })
		if a, b := mustCount(t, l), mustCount(t, other); !slices.Equal(a, b) {
			t.Errorf("Count of %v: %v; of %v: %v", l, a, other, b)
		}
		for _, pure := range purities(r) {
			surely, perhaps := mustBears(t, l, pure)
			otherSurely, otherPerhaps := mustBears(t, other, pure)
			if !slices.Equal(surely, otherSurely) || !slices.Equal(perhaps, otherPerhaps) {
				t.Errorf("Bears for %d of %v: %v, %v; of %v: %v, %v", pure, l, surely, perhaps, other, otherSurely, otherPerhaps)
			}
		}
	})
}

// The rules R3 and R4, and P1

func TestNilAndEmpty(t *testing.T) {
	withNil := label.Lot{Looks: [][]int{{0, 1}, {1, 0}}, Parts: []label.Part{{Plants: 3, Seen: [][]int{{1, 2, 0, 0}, nil}}}}
	withEmpty := withSeen(withNil, 0, 1, nil)
	withEmpty.Parts[0].Seen[1] = []int{}
	if a, b := mustCount(t, withNil), mustCount(t, withEmpty); !slices.Equal(a, b) {
		t.Errorf("Count with an empty list: %v, not %v", b, a)
	}
	if part, trait, worst, e := label.Next(withEmpty, 0); e != api.OK || part != 0 || trait != 1 || worst != 0 {
		t.Errorf("Next with an empty list: %d, %d, %d, %v", part, trait, worst, e)
	}
	if n, e := label.Rogue(withEmpty, 0, api.MaxPure); e != api.OK || n != 2 {
		t.Errorf("Rogue with an empty list: %d, %v", n, e)
	}
	bare, empty := plain(2), plain(2)
	empty.Parts = []label.Part{}
	if a, b := mustCount(t, bare), mustCount(t, empty); !slices.Equal(a, b) {
		t.Errorf("Count without parts: %v, %v", a, b)
	}
	if l, e := label.Join(bare, empty); e != api.OK || !sameLot(l, bare) {
		t.Errorf("Join without parts: %v, %v", l, e)
	}
	for _, l := range []label.Lot{{Looks: [][]int{}, Parts: []label.Part{}}, {Looks: [][]int{nil}}, {Looks: [][]int{{}}}} {
		if e := label.CheckLot(l); e != api.ErrArg {
			t.Errorf("CheckLot of %v: %v", l, e)
		}
	}
}

// wipe overwrites all of a lot.
func wipe(l label.Lot) {
	for _, looks := range l.Looks {
		clear(looks)
	}
	clear(l.Looks)
	for _, p := range l.Parts {
		for _, seen := range p.Seen {
			clear(seen)
		}
		clear(p.Seen)
	}
	clear(l.Parts)
}

func TestMemory(t *testing.T) {
	l, other := known(), field()
	truth := [][]int{{7, 2, 1}, {1, 3, 1}}
	label.CheckLot(l)
	ranges := mustCount(t, l)
	surely, perhaps := mustBears(t, l, 133)
	found := mustFind(t, l, 0, 8)
	label.ProveTruth(l, truth)
	label.Rogue(l, 0, 550)
	label.Next(l, 0)
	joined, _ := label.Join(l, other)
	twice, _ := label.Join(l, l)
	if !sameLot(l, known()) || !sameLot(other, field()) || !slices.EqualFunc(truth, [][]int{{7, 2, 1}, {1, 3, 1}}, slices.Equal) {
		t.Error("an argument was changed")
	}
	clear(twice.Parts[0].Seen[0])
	if !slices.Equal(twice.Parts[2].Seen[0], []int{8, 2, 0, 0}) {
		t.Error("the parts of a joined lot share memory")
	}
	clear(surely)
	if !slices.Equal(perhaps, []int{0, 1, 2}) {
		t.Error("the names share memory")
	}
	clear(found[0])
	if slices.Equal(found[1], []int{0, 0, 0}) {
		t.Error("the lists of a truth share memory")
	}
	clear(ranges)
	wipe(joined)
	wipe(twice)
	if !sameLot(l, known()) || !sameLot(other, field()) {
		t.Error("a result shares memory with an argument")
	}
}

// TestWidest has the lot with the most truths to look at.
func TestWidest(t *testing.T) {
	l := widest()
	for kind := range l.Looks {
		mustFind(t, l, kind, 0)
		mustFind(t, l, kind, 41)
		mustFind(t, l, kind, 80)
		if n, e := label.Rogue(l, kind, 1); e != api.ErrNone || n != 0 {
			t.Errorf("Rogue for %d: %d, %v", kind, n, e)
		}
	}
	// The first trait tells the second kind from all others.
	if part, trait, worst, e := label.Next(l, 1); e != api.OK || part != 0 || trait != 0 || worst != 60 {
		t.Errorf("Next: %d, %d, %d, %v", part, trait, worst, e)
	}
	if surely, perhaps := mustBears(t, l, api.MaxPure); len(surely) != 0 || len(perhaps) != api.MaxKinds {
		t.Errorf("Bears: %v, %v", surely, perhaps)
	}
}

package ill_test

import (
	"math/rand"
	"slices"
	"testing"

	"bybloem/api"
	"bybloem/ill"
)

func mustFirst(t *testing.T, r ill.Row) []int {
	t.Helper()
	l, e := ill.First(r)
	if e != api.OK || len(l) != r.Plants {
		t.Fatalf("First of %v: %v, %v", r, l, e)
	}
	return l
}

func mustKnown(t *testing.T, r ill.Row) []uint8 {
	t.Helper()
	l, e := ill.Known(r)
	if e != api.OK || len(l) != r.Plants {
		t.Fatalf("Known of %v: %v, %v", r, l, e)
	}
	return l
}

func mustCount(t *testing.T, r ill.Row) (least, most int) {
	t.Helper()
	least, most, e := ill.Count(r)
	if e != api.OK {
		t.Fatalf("Count of %v: %d, %d, %v", r, least, most, e)
	}
	return least, most
}

func mustSample(t *testing.T, r ill.Row, number int) []int {
	t.Helper()
	l, e := ill.Sample(r, number)
	if e != api.OK || !ill.ProveSample(r, number, l) {
		t.Fatalf("Sample for %d of %v: %v, %v", number, r, l, e)
	}
	return l
}

func canBe(r ill.Row) bool {
	_, e := ill.First(r)
	return e == api.OK
}

// noEarlier holds that no plant is ill in the onsets b that is not so in a, and
// none earlier.
func noEarlier(t *testing.T, r ill.Row, a, b []int) {
	t.Helper()
	for plant, onset := range b {
		if onset >= 0 && (a[plant] < 0 || a[plant] > onset) {
			t.Errorf("%v is earlier than %v in %v", b, a, r)
		}
	}
}

// P3.5

func TestAnyTruth(t *testing.T) {
	eachRow(t, 1000, func(_ *rand.Rand, x ill.Row, onsets []int) {
		if !ill.ProveTruth(x, onsets) {
			t.Errorf("ProveTruth of %v in %v", onsets, x)
		}
		for plant, k := range mustKnown(t, x) {
			if onset := onsets[plant]; k == ill.Ill && onset < 0 || k == ill.Healthy && onset >= 0 {
				t.Errorf("of the plant %d %d is known, with %v in %v", plant, k, onsets, x)
			}
		}
		n := modelCases(x, onsets, 0)
		if least, most := mustCount(t, x); n < least || n > most {
			t.Errorf("%d plants are ill, not from %d to %d, with %v in %v", n, least, most, onsets, x)
		}
	})
}

// P3.6

func TestEarliest(t *testing.T) {
	eachRow(t, 1000, func(_ *rand.Rand, x ill.Row, onsets []int) {
		first := mustFirst(t, x)
		if !modelPossible(x, first) || !ill.ProveTruth(x, first) {
			t.Errorf("the earliest truth %v of %v is not possible", first, x)
		}
		noEarlier(t, x, first, onsets)
		if _, most := mustCount(t, x); modelCases(x, first, 0) != most {
			t.Errorf("not %d plants are ill in %v of %v", most, first, x)
		}
	})
}

// P3.7

func TestOneNoteMore(t *testing.T) {
	impossible := 0
	eachRow(t, 1000, func(r *rand.Rand, x ill.Row, _ []int) {
		n, ok := randomNote(r, x)
		if !ok || len(x.Notes) == api.MaxNotes {
			return
		}
		more := with(x, n)
		if !canBe(more) {
			impossible++
			return
		}
		before := mustKnown(t, x)
		for plant, k := range mustKnown(t, more) {
			if before[plant] != ill.Open && before[plant] != k {
				t.Errorf("with %v the plant %d is %d, not %d any more, in %v", n, plant, k, before[plant], x)
			}
		}
		noEarlier(t, x, mustFirst(t, x), mustFirst(t, more))
		least, most := mustCount(t, x)
		if l, m := mustCount(t, more); l < least || m > most {
			t.Errorf("with %v the range %d to %d is %d to %d, in %v", n, least, most, l, m, x)
		}
	})
	if impossible < 20 {
		t.Errorf("%d rows cannot be with a note more", impossible)
	}
}

// TestNothingMorePossible holds that a truth with a note more is one without.
func TestNothingMorePossible(t *testing.T) {
	eachSmall(t, 1000, func(r *rand.Rand, x ill.Row, _ [][]int) {
		n, ok := randomNote(r, x)
		if !ok {
			return
		}
		more := with(x, n)
		eachOnsets(x, func(onsets []int) {
			if ill.ProveTruth(more, onsets) && !ill.ProveTruth(x, onsets) {
				t.Errorf("%v is possible only with %v, in %v", onsets, n, x)
			}
		})
	})
}

// P3.8

func TestSure(t *testing.T) {
	eachRow(t, 1000, func(_ *rand.Rand, x ill.Row, _ []int) {
		known := mustKnown(t, x)
		for _, n := range x.Notes {
			if n.Yes && known[n.Plant] != ill.Ill {
				t.Errorf("the plant of %v is %d in %v", n, known[n.Plant], x)
			}
		}
		if len(x.Weeks) == 0 || len(x.Notes) == api.MaxNotes {
			return
		}
		for plant, k := range known {
			if modelStandsLast(x, plant) && canBe(with(x, test(plant, len(x.Weeks), true))) != (k != ill.Healthy) {
				t.Errorf("the plant %d is %d, and can be tested or not, in %v", plant, k, x)
			}
		}
	})
}

// TestOpen holds that a plant that is open is ill in some possible truth, and
// not in another one.
func TestOpen(t *testing.T) {
	eachSmall(t, 1000, func(_ *rand.Rand, x ill.Row, truths [][]int) {
		if len(truths) == 0 {
			return
		}
		for plant, k := range mustKnown(t, x) {
			if k != ill.Open {
				continue
			}
			isIll := func(onsets []int) bool { return ill.ProveTruth(x, onsets) && onsets[plant] >= 0 }
			isNot := func(onsets []int) bool { return ill.ProveTruth(x, onsets) && onsets[plant] < 0 }
			if !slices.ContainsFunc(truths, isIll) || !slices.ContainsFunc(truths, isNot) {
				t.Errorf("the plant %d is not open in %v", plant, x)
			}
		}
	})
}

// P3.9

func TestDug(t *testing.T) {
	asked := 0
	eachRow(t, 2000, func(r *rand.Rand, x ill.Row, _ []int) {
		plant := r.Intn(x.Plants)
		week := 0
		for _, n := range x.Notes {
			if n.Plant == plant {
				week = max(week, n.Week)
			}
		}
		if week == 0 && len(x.Weeks) > 0 {
			week = 1 + r.Intn(len(x.Weeks))
		}
		if week == 0 || x.Dug[plant] > 0 && x.Dug[plant] <= week {
			return
		}
		dug := copyRow(x)
		dug.Dug[plant] = week
		if canBe(dug) {
			asked++
			noEarlier(t, dug, mustFirst(t, x), mustFirst(t, dug))
		}
	})
	if asked < 100 {
		t.Errorf("%d rows were asked for", asked)
	}
}

// P3.10

func TestEnough(t *testing.T) {
	eachRow(t, 1000, func(r *rand.Rand, x ill.Row, onsets []int) {
		if len(x.Weeks) == 0 {
			return
		}
		all := samples(x)
		sample, number := all[r.Intn(len(all))], r.Intn(api.MaxRow+1)
		if !ill.ProveSample(x, number, sample) {
			return
		}
		for greater := number; greater <= api.MaxRow; greater++ {
			if !ill.ProveSample(x, greater, sample) {
				t.Errorf("%v is enough for %d, not for %d, in %v", sample, number, greater, x)
			}
		}
		for plant := range x.Plants {
			more := slices.Concat(sample, []int{plant})
			slices.Sort(more)
			if modelStandsLast(x, plant) && !slices.Contains(sample, plant) && !ill.ProveSample(x, number, more) {
				t.Errorf("%v is enough for %d, not with %d, in %v", sample, number, plant, x)
			}
		}
		isSaid := func(plant int) bool { return modelIll(onsets[plant], x.Old, len(x.Weeks)) }
		if old := modelCases(x, onsets, x.Old); !slices.ContainsFunc(sample, isSaid) && old > number {
			t.Errorf("%d old cases were not seen by %v, enough for %d, with %v in %v", old, sample, number, onsets, x)
		}
	})
}

func TestBestSample(t *testing.T) {
	eachRow(t, 500, func(r *rand.Rand, x ill.Row, _ []int) {
		if len(x.Weeks) == 0 {
			return
		}
		number := r.Intn(4)
		best := mustSample(t, x, number)
		for _, sample := range samples(x) {
			if slices.Equal(sample, best) {
				return
			}
			if ill.ProveSample(x, number, sample) {
				t.Errorf("%v comes before %v for %d in %v", sample, best, number, x)
			}
		}
		t.Errorf("%v is no sample of %v", best, x)
	})
}

// P3.11

func TestAphids(t *testing.T) {
	eachRow(t, 1000, func(r *rand.Rand, x ill.Row, onsets []int) {
		var changes []change
		if len(x.Weeks) > 0 {
			week := r.Intn(len(x.Weeks))
			flight := x.Weeks[week].Flight
			changes = append(changes,
				func(r *ill.Row) { r.Weeks[week].Flight = flight + 1 },
				func(r *ill.Row) { r.Weeks[week].Flight = api.MaxRow },
				func(r *ill.Row) { r.Weeks[week].Outside = true },
				func(r *ill.Row) { r.Weeks[week] = ill.Week{Flight: flight + 1, Outside: true} })
		}
		if x.Lag > 1 {
			changes = append(changes, func(r *ill.Row) { r.Lag-- })
		}
		changes = append(changes, func(r *ill.Row) { r.Clean = false })
		for _, c := range changes {
			more := c.of(x)
			if !ill.ProveTruth(more, onsets) {
				t.Errorf("%v is possible in %v, not in %v", onsets, x, more)
			}
			noEarlier(t, x, mustFirst(t, more), mustFirst(t, x))
		}
	})
}

// P3.12

func TestTurned(t *testing.T) {
	eachRow(t, 1000, func(_ *rand.Rand, x ill.Row, onsets []int) {
		turned := copyRow(x)
		slices.Reverse(turned.Dug)
		for n := range turned.Notes {
			turned.Notes[n].Plant = x.Plants - 1 - x.Notes[n].Plant
		}
		known := mustKnown(t, turned)
		slices.Reverse(known)
		if want := mustKnown(t, x); !slices.Equal(known, want) {
			t.Errorf("from its other end %v is known, not %v, of %v", known, want, x)
		}
		first := mustFirst(t, turned)
		slices.Reverse(first)
		if want := mustFirst(t, x); !slices.Equal(first, want) {
			t.Errorf("from its other end the earliest truth is %v, not %v, of %v", first, want, x)
		}
		least, most := mustCount(t, x)
		if l, m := mustCount(t, turned); l != least || m != most {
			t.Errorf("from its other end the range is %d to %d, not %d to %d, of %v", l, m, least, most, x)
		}
	})
}

// The rules R3 and R4, and P1

func TestNilAndEmpty(t *testing.T) {
	empty := bare(false)
	empty.Weeks, empty.Notes = []ill.Week{}, []ill.Note{}
	if l, e := ill.First(empty); e != api.OK || !slices.Equal(l, []int{0, 0, 0}) {
		t.Errorf("First with empty lists: %v, %v", l, e)
	}
	if !ill.ProveTruth(empty, []int{0, -1, 0}) {
		t.Error("ProveTruth with empty lists")
	}
	if least, most, e := ill.Count(empty); e != api.OK || least != 0 || most != 3 {
		t.Errorf("Count with empty lists: %d, %d, %v", least, most, e)
	}
}

func sameRow(a, b ill.Row) bool {
	return a.Plants == b.Plants && a.Lag == b.Lag && a.Show == b.Show && a.Old == b.Old && a.Clean == b.Clean &&
		slices.Equal(a.Weeks, b.Weeks) && slices.Equal(a.Dug, b.Dug) && slices.Equal(a.Notes, b.Notes)
}

func TestMemory(t *testing.T) {
	r := field()
	onsets, plants := []int{1, 2, 2, 2, 1}, []int{0, 4}
	first, _ := ill.First(r)
	known, _ := ill.Known(r)
	sample, _ := ill.Sample(r, 1)
	ill.CheckRow(r)
	ill.Count(r)
	ill.ProveTruth(r, onsets)
	ill.ProveSample(r, 1, plants)
	if !sameRow(r, field()) || !slices.Equal(onsets, []int{1, 2, 2, 2, 1}) || !slices.Equal(plants, []int{0, 4}) {
		t.Error("an argument was changed")
	}
	clear(first)
	clear(known)
	clear(sample)
	if !sameRow(r, field()) || !slices.Equal(mustFirst(t, r), onsets) || !slices.Equal(mustSample(t, r, 1), plants) {
		t.Error("a result shares memory")
	}
}

// TestWidest has the rows with the most truths and samples to look at.
func TestWidest(t *testing.T) {
	r := widest()
	r.Lag, r.Old, r.Notes = 1, 0, nil
	for number := range api.MaxRow + 1 {
		want := []int{0, 1, 2, 3, 4, 5, 6, 7, 8, 9}[:api.MaxRow-number]
		if l := mustSample(t, r, number); !slices.Equal(l, want) {
			t.Errorf("Sample for %d: %v", number, l)
		}
	}
	if least, most := mustCount(t, r); least != 0 || most != api.MaxRow {
		t.Errorf("Count: %d, %d", least, most)
	}
}

package label_test

import (
	"math/rand"
	"slices"
	"testing"

	"bybloem/api"
	"bybloem/label"
)

// The model looks at every truth of a small lot, and asks of all of them what
// the chapter asks. Random lots, always the same ones, are done by both. Great
// lots, of which this would take too long, come with one truth.

// modelTold returns how many plants have each look, by a trait.
func modelTold(l label.Lot, trait int, numbers []int) []int {
	told := make([]int, api.MaxLooks)
	for kind, n := range numbers {
		told[l.Looks[kind][trait]] += n
	}
	return told
}

func modelFits(l label.Lot, part int, numbers []int) bool {
	for trait, seen := range l.Parts[part].Seen {
		if len(seen) > 0 && !slices.Equal(seen, modelTold(l, trait, numbers)) {
			return false
		}
	}
	return true
}

// eachMix calls back with each list of numbers of the kinds that has the sum.
// The list is the same one each time.
func eachMix(kinds, plants int, back func([]int)) {
	numbers := make([]int, kinds)
	var choose func(kind, rest int)
	choose = func(kind, rest int) {
		if kind == kinds-1 {
			numbers[kind] = rest
			back(numbers)
			return
		}
		for n := range rest + 1 {
			numbers[kind] = n
			choose(kind+1, rest-n)
		}
	}
	choose(0, plants)
}

// modelTruths returns all truths of a lot.
func modelTruths(l label.Lot) [][][]int {
	truths := [][][]int{nil}
	for part, p := range l.Parts {
		var longer [][][]int
		eachMix(len(l.Looks), p.Plants, func(numbers []int) {
			if !modelFits(l, part, numbers) {
				return
			}
			mix := slices.Clone(numbers)
			for _, truth := range truths {
				longer = append(longer, slices.Concat(truth, [][]int{mix}))
			}
		})
		truths = longer
	}
	return truths
}

func modelNumber(truth [][]int, kind int) int {
	n := 0
	for _, numbers := range truth {
		n += numbers[kind]
	}
	return n
}

func modelPlants(l label.Lot) int {
	n := 0
	for _, p := range l.Parts {
		n += p.Plants
	}
	return n
}

// modelNumbers returns the numbers of the kind in the truths, each once and
// rising.
func modelNumbers(truths [][][]int, kind int) []int {
	var l []int
	for _, truth := range truths {
		l = append(l, modelNumber(truth, kind))
	}
	slices.Sort(l)
	return slices.Compact(l)
}

func modelRange(truths [][][]int, kind int) label.Range {
	l := modelNumbers(truths, kind)
	return label.Range{Lo: l[0], Hi: l[len(l)-1]}
}

// modelHas tells whether a lot has the name in a truth, if some are dug.
func modelHas(l label.Lot, truth [][]int, kind, pure, dug int) bool {
	return 1000*modelNumber(truth, kind) >= pure*(modelPlants(l)-dug)
}

func modelBears(l label.Lot, truths [][][]int, pure int) (surely, perhaps []int) {
	for kind := range l.Looks {
		has := func(truth [][]int) bool { return modelHas(l, truth, kind, pure, 0) }
		hasNot := func(truth [][]int) bool { return !has(truth) }
		if !slices.ContainsFunc(truths, hasNot) {
			surely = append(surely, kind)
		}
		if slices.ContainsFunc(truths, has) {
			perhaps = append(perhaps, kind)
		}
	}
	return surely, perhaps
}

// modelTellable counts the plants of a part that can be told from a kind by a
// trait that was looked at.
func modelTellable(l label.Lot, part, trait, kind int) int {
	n := 0
	for look, seen := range l.Parts[part].Seen[trait] {
		if look != l.Looks[kind][trait] {
			n += seen
		}
	}
	return n
}

// modelDug returns the numbers of plants that can be dug, each once and rising:
// in each part some or none that can be told by one trait.
func modelDug(l label.Lot, kind int) []int {
	all := []int{0}
	for part := range l.Parts {
		more := slices.Clone(all)
		for trait := range l.Parts[part].Seen {
			for n := range modelTellable(l, part, trait, kind) + 1 {
				for _, dug := range all {
					more = append(more, dug+n)
				}
			}
		}
		slices.Sort(more)
		all = slices.Compact(more)
	}
	return all
}

func modelRogue(l label.Lot, truths [][][]int, kind, pure int) (int, bool) {
	for _, dug := range modelDug(l, kind) {
		hasNot := func(truth [][]int) bool { return !modelHas(l, truth, kind, pure, dug) }
		if !slices.ContainsFunc(truths, hasNot) {
			return dug, true
		}
	}
	return 0, false
}

// next is an inspection with its worst.
type next struct{ part, trait, worst int }

// modelWorst has what an inspection may tell, and the truths that it leaves.
func modelWorst(l label.Lot, truths [][][]int, part, trait, kind int) int {
	leaves := map[[api.MaxLooks]int][][][]int{}
	for _, truth := range truths {
		told := [api.MaxLooks]int(modelTold(l, trait, truth[part]))
		leaves[told] = append(leaves[told], truth)
	}
	worst := 0
	for _, some := range leaves {
		r := modelRange(some, kind)
		worst = max(worst, r.Hi-r.Lo)
	}
	return worst
}

func modelNext(l label.Lot, truths [][][]int, kind int) (best next, found bool) {
	for part, p := range l.Parts {
		for trait, seen := range p.Seen {
			if len(seen) > 0 {
				continue
			}
			worst := modelWorst(l, truths, part, trait, kind)
			if !found || worst < best.worst {
				best, found = next{part, trait, worst}, true
			}
		}
	}
	return best, found
}

func copyLists(lists [][]int) [][]int {
	var l [][]int
	for _, x := range lists {
		l = append(l, slices.Clone(x))
	}
	return l
}

// copyLot copies all lists of a lot.
func copyLot(l label.Lot) label.Lot {
	l.Looks, l.Parts = copyLists(l.Looks), slices.Clone(l.Parts)
	for n := range l.Parts {
		l.Parts[n].Seen = copyLists(l.Parts[n].Seen)
	}
	return l
}

// withSeen is a copy of a lot of which a part was looked at by a trait.
func withSeen(l label.Lot, part, trait int, seen []int) label.Lot {
	l = copyLot(l)
	l.Parts[part].Seen[trait] = slices.Clone(seen)
	return l
}

// shape is how great a random lot is at most.
type shape struct{ kinds, traits, looks, parts, plants int }

// gapped are kinds of which two of the first one and one of the last one look
// as one of each other kind, so that numbers between them may be impossible.
func gapped() [][]int { return [][]int{{0, 0, 0}, {1, 0, 0}, {0, 1, 0}, {0, 0, 1}, {1, 1, 1}} }

func randomLooks(r *rand.Rand, s shape) [][]int {
	traits := 1 + r.Intn(s.traits)
	looks := 2 + r.Intn(s.looks-1)
	var l [][]int
	for range 1 + r.Intn(s.kinds) {
		kind := make([]int, traits)
		for trait := range kind {
			kind[trait] = r.Intn(looks)
		}
		isSame := func(other []int) bool { return slices.Equal(other, kind) }
		if !slices.ContainsFunc(l, isSame) {
			l = append(l, kind)
		}
	}
	return l
}

func randomMix(r *rand.Rand, kinds, plants int) []int {
	numbers := make([]int, kinds)
	few := 1 + r.Intn(kinds)
	for range plants {
		numbers[r.Intn(few)]++
	}
	return numbers
}

// withPart is a lot with a part more, which has a truth with these numbers, and
// was looked at by each trait as often of 5 times.
func withPart(r *rand.Rand, l label.Lot, numbers []int, often int) label.Lot {
	p := label.Part{Seen: make([][]int, len(l.Looks[0]))}
	for _, n := range numbers {
		p.Plants += n
	}
	for trait := range p.Seen {
		if r.Intn(5) < often {
			p.Seen[trait] = modelTold(l, trait, numbers)
		}
	}
	l.Parts = append(l.Parts, p)
	return l
}

// randomLot is a lot with one of its truths.
func randomLot(r *rand.Rand, s shape) (l label.Lot, truth [][]int) {
	l.Looks = randomLooks(r, s)
	often := 1 + r.Intn(4)
	for range r.Intn(s.parts + 1) {
		numbers := randomMix(r, len(l.Looks), r.Intn(s.plants+1))
		l, truth = withPart(r, l, numbers, often), append(truth, numbers)
	}
	return l, truth
}

// gappedLot is a lot of gapped kinds with one of its truths.
func gappedLot(r *rand.Rand) (l label.Lot, truth [][]int) {
	l.Looks = gapped()
	for range 1 + r.Intn(2) {
		numbers := []int{2, 0, 0, 0, 1}
		numbers[r.Intn(len(numbers))] += r.Intn(2)
		l, truth = withPart(r, l, numbers, 4), append(truth, numbers)
	}
	return l, truth
}

// mistaken is a lot of which a plant was seen with a wrong look, which may make
// it one that cannot be.
func mistaken(r *rand.Rand, l label.Lot) label.Lot {
	l = copyLot(l)
	for _, p := range l.Parts {
		for _, seen := range p.Seen {
			if from, to := r.Intn(api.MaxLooks), r.Intn(api.MaxLooks); len(seen) > 0 && seen[from] > 0 {
				seen[from]--
				seen[to]++
				return l
			}
		}
	}
	return l
}

// small are shapes of which each truth can be looked at.
var small = []shape{
	{kinds: 5, traits: 3, looks: 2, parts: 2, plants: 4},
	{kinds: 3, traits: 2, looks: 4, parts: 4, plants: 2},
	{kinds: 4, traits: 3, looks: 3, parts: 3, plants: 3},
	{kinds: 5, traits: 3, looks: 4, parts: 1, plants: 8},
}

var great = shape{kinds: api.MaxKinds, traits: api.MaxTraits, looks: api.MaxLooks, parts: api.MaxParts, plants: api.MaxFlowers}

// eachSmall calls a test with random lots of which some cannot be.
func eachSmall(t *testing.T, n int, test func(r *rand.Rand, l label.Lot, truths [][][]int)) {
	t.Helper()
	r := rand.New(rand.NewSource(4))
	for i := range n {
		l, _ := randomLot(r, small[i%len(small)])
		if r.Intn(8) == 0 {
			l, _ = gappedLot(r)
		}
		if r.Intn(3) == 0 {
			l = mistaken(r, l)
		}
		test(r, l, modelTruths(l))
		if t.Failed() {
			return
		}
	}
}

// eachLot calls a test with random lots, small and great ones, and a truth of
// each.
func eachLot(t *testing.T, n int, test func(r *rand.Rand, l label.Lot, truth [][]int)) {
	t.Helper()
	r := rand.New(rand.NewSource(5))
	for i := range n {
		s := great
		if i%2 == 0 {
			s = small[i/2%len(small)]
		}
		l, truth := randomLot(r, s)
		test(r, l, truth)
		if t.Failed() {
			return
		}
	}
}

// TestRandomLots asks whether the random lots have what the other tests are
// about at all.
func TestRandomLots(t *testing.T) {
	var failed, open, gaps, late, rogues, noRogues, seen int
	eachSmall(t, 600, func(_ *rand.Rand, l label.Lot, truths [][][]int) {
		if len(truths) == 0 {
			failed++
			return
		}
		for kind := range l.Looks {
			numbers := modelNumbers(truths, kind)
			if len(numbers) > 1 {
				open++
			}
			if len(numbers) <= numbers[len(numbers)-1]-numbers[0] {
				gaps++
			}
			switch n, ok := modelRogue(l, truths, kind, 800); {
			case !ok:
				noRogues++
			case n > 0:
				rogues++
			}
			switch x, ok := modelNext(l, truths, kind); {
			case !ok:
				seen++
			case x.part+x.trait > 0:
				late++
			}
		}
	})
	if min(failed, gaps) < 20 || min(open, late, rogues, noRogues, seen) < 100 {
		t.Errorf("small lots: %d cannot be, %d ranges, %d with gaps, %d with rogues, %d with too few, %d with a late inspection, %d with none", failed, open, gaps, rogues, noRogues, late, seen)
	}
}

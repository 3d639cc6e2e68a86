package force_test

import (
	"math"
	"math/rand"
	"slices"
	"testing"

	"bybloem/api"
	"bybloem/force"
)

func mustCost(t *testing.T, l force.Lot, program []force.Block) int {
	t.Helper()
	n, e := force.Cost(l, program)
	if e != api.OK {
		t.Fatalf("Cost of %v, %v: %d, %v", l, program, n, e)
	}
	return n
}

func mustFlower(t *testing.T, l force.Lot, program []force.Block, size int, n needs) int {
	t.Helper()
	day, e := force.Flower(l, program, size, n)
	if e != api.OK || day < never || day >= lasts(program) {
		t.Fatalf("Flower of %v, %v, the size %d that needs %v: %d, %v", l, program, size, n, day, e)
	}
	return day
}

func mustDays(t *testing.T, l force.Lot, program []force.Block) []force.Range {
	t.Helper()
	d, e := force.Days(l, program)
	if e != api.OK || len(d) != len(l.Sizes) {
		t.Fatalf("Days of %v, %v: %v, %v", l, program, d, e)
	}
	return d
}

func mustMeet(t *testing.T, l force.Lot, program []force.Block, date force.Range) bool {
	t.Helper()
	is, e := force.Meets(l, program, date)
	if e != api.OK {
		t.Fatalf("Meets of %v, %v, for %v: %v, %v", l, program, date, is, e)
	}
	return is
}

// bestOf returns the best program and what it costs, or no program and math.MaxInt.
func bestOf(t *testing.T, l force.Lot, days int, date force.Range) ([]force.Block, int) {
	t.Helper()
	program, cost, e := force.Best(l, days, date)
	if e == api.ErrFail && program == nil && cost == 0 {
		return nil, math.MaxInt
	}
	if e != api.OK || len(program) == 0 || len(program) > api.MaxBlocks {
		t.Fatalf("Best of %v, %d days, for %v: %v, %d, %v", l, days, date, program, cost, e)
	}
	return program, cost
}

// bedsOf returns beds for the stays, how many they are, and the day.
func bedsOf(t *testing.T, l []force.Stay) (beds []int, many, day int) {
	t.Helper()
	beds, day, e := force.Beds(l)
	if e != api.OK || !modelProves(l, beds, day) {
		t.Fatalf("Beds of %v: %v, %d, %v", l, beds, day, e)
	}
	if len(l) > 0 {
		many = slices.Max(beds) + 1
	}
	return beds, many, day
}

func lasts(program []force.Block) int {
	days := 0
	for _, x := range program {
		days += x.Days
	}
	return days
}

// around is the date made wider.
func around(r *rand.Rand, date force.Range) force.Range {
	return to(r.Intn(date.Lo+1), date.Hi+r.Intn(api.MaxForcing-date.Hi))
}

// P8.5

func TestAnyBulb(t *testing.T) {
	sure, perhaps, no := 0, 0, 0
	eachLot(t, 900, allShapes(), func(r *rand.Rand, l force.Lot, most int, _ force.Range) {
		program := randomBlocks(r, len(l.Prices), most)
		for n, d := range mustDays(t, l, program) {
			switch {
			case d.Hi != never:
				sure++
			case d.Lo != never:
				perhaps++
			default:
				no++
			}
			for range 8 {
				x := randomNeeds(r, l.Sizes[n])
				day := mustFlower(t, l, program, n, x)
				mayBe := day >= d.Lo && day <= d.Hi
				if d.Hi == never {
					mayBe = day == never || d.Lo != never && day >= d.Lo
				}
				if !mayBe {
					t.Fatalf("Days of %v, %v: %v of the size %d, and with the needs %v %d", l, program, d, n, x, day)
				}
			}
			first, last := mustFlower(t, l, program, n, leastOf(l.Sizes[n])), mustFlower(t, l, program, n, greatestOf(l.Sizes[n]))
			if d != to(first, last) {
				t.Fatalf("Days of %v, %v: %v of the size %d, with the ends of the needs %d and %d", l, program, d, n, first, last)
			}
		}
	})
	if min(sure, perhaps, no) < 100 {
		t.Errorf("%d sizes flower, %d perhaps, %d do not", sure, perhaps, no)
	}
}

// P8.6

// narrower is a lot with narrower needs.
func narrower(r *rand.Rand, l force.Lot) force.Lot {
	l = cloned(l)
	for n, s := range l.Sizes {
		for phase, x := range s.Needs {
			low := x.Lo + r.Intn(x.Hi-x.Lo+1)
			l.Sizes[n].Needs[phase] = to(low, low+r.Intn(x.Hi-low+1))
		}
	}
	return l
}

func TestOnTheDate(t *testing.T) {
	met := 0
	eachLot(t, 900, allShapes(), func(r *rand.Rand, l force.Lot, most int, date force.Range) {
		program, _ := bestOf(t, l, most, date)
		if other := randomBlocks(r, len(l.Prices), most); program == nil || mustMeet(t, l, other, date) {
			program = other
		}
		if !mustMeet(t, l, program, date) {
			return
		}
		met++
		for n, s := range l.Sizes {
			for _, x := range []needs{leastOf(s), greatestOf(s), randomNeeds(r, s), randomNeeds(r, s)} {
				if day := mustFlower(t, l, program, n, x); !has(date, day) {
					t.Fatalf("%v meets %v with %v, and the size %d that needs %v flowers on %d", l, date, program, n, x, day)
				}
			}
		}
		others := []force.Lot{narrower(r, l)}
		for n := range l.Sizes {
			if len(l.Sizes) > 1 {
				less := cloned(l)
				less.Sizes = slices.Delete(less.Sizes, n, n+1)
				others = append(others, less)
			}
		}
		for _, other := range others {
			if !mustMeet(t, other, program, date) {
				t.Fatalf("%v meets %v with %v, and %v does not", l, date, program, other)
			}
		}
	})
	if met < 300 {
		t.Errorf("%d dates were met", met)
	}
}

// P8.7

func TestCheapest(t *testing.T) {
	eachLot(t, 300, slices.Concat(middle, small), func(r *rand.Rand, l force.Lot, most int, date force.Range) {
		noCheaper(t, l, most, date)
	})
	eachLot(t, 24, great, func(r *rand.Rand, l force.Lot, most int, date force.Range) {
		noCheaper(t, l, most, date)
	})
}

// noCheaper holds the best program against all others.
func noCheaper(t *testing.T, l force.Lot, most int, date force.Range) {
	t.Helper()
	program, cost := bestOf(t, l, most, date)
	if program != nil && (lasts(program) != most || !mustMeet(t, l, program, date) || mustCost(t, l, program) != cost) {
		t.Fatalf("Best of %v, %d days, for %v: %v, %d", l, most, date, program, cost)
	}
	for _, other := range modelPrograms(len(l.Prices), most, api.MaxBlocks) {
		isBetter := program == nil || slices.Compare(modelRank(l, other), modelRank(l, program)) < 0
		if isBetter && mustMeet(t, l, other, date) {
			t.Fatalf("Best of %v, %d days, for %v: %v, %d, and %v meets it, too", l, most, date, program, cost, other)
		}
	}
}

// P8.8

func TestWiderDate(t *testing.T) {
	cheaper := 0
	eachLot(t, 600, allShapes(), func(r *rand.Rand, l force.Lot, most int, date force.Range) {
		_, cost := bestOf(t, l, most, date)
		wider := around(r, date)
		program, other := bestOf(t, l, most, wider)
		if other > cost {
			t.Fatalf("Best of %v, %d days, for %v costs %d, for %v %v, %d", l, most, date, cost, wider, program, other)
		}
		if other < cost {
			cheaper++
		}
	})
	if cheaper < 30 {
		t.Errorf("%d times cheaper", cheaper)
	}
}

func TestLesserPrices(t *testing.T) {
	cheaper := 0
	eachLot(t, 600, allShapes(), func(r *rand.Rand, l force.Lot, most int, date force.Range) {
		_, cost := bestOf(t, l, most, date)
		less := cloned(l)
		for temp, price := range less.Prices {
			less.Prices[temp] = r.Intn(price + 1)
		}
		program, other := bestOf(t, less, most, date)
		if other > cost || (program == nil) != (cost == math.MaxInt) {
			t.Fatalf("Best of %v, %d days, for %v costs %d, of %v %v, %d", l, most, date, cost, less, program, other)
		}
		if other < cost {
			cheaper++
		}
	})
	if cheaper < 100 {
		t.Errorf("%d times cheaper", cheaper)
	}
}

// P8.9

// isLater tells whether a day is later than another one, or never.
func isLater(day, other int) bool { return other != never && (day == never || day > other) }

func TestGreaterNeeds(t *testing.T) {
	later := 0
	eachLot(t, 1800, allShapes(), func(r *rand.Rand, l force.Lot, most int, _ force.Range) {
		program := randomBlocks(r, len(l.Prices), most)
		n := r.Intn(len(l.Sizes))
		for phase, x := range l.Sizes[n].Needs {
			l.Sizes[n].Needs[phase] = to(x.Lo, min(api.MaxNeed, x.Hi+r.Intn(20)))
		}
		x := randomNeeds(r, l.Sizes[n])
		greater := x
		for phase, need := range x {
			greater[phase] += r.Intn(l.Sizes[n].Needs[phase].Hi - need + 1)
		}
		day, other := mustFlower(t, l, program, n, x), mustFlower(t, l, program, n, greater)
		if isLater(day, other) {
			t.Fatalf("Flower of %v, %v, the size %d that needs %v: %d, that needs %v: %d", l, program, n, x, day, greater, other)
		}
		if isLater(other, day) {
			later++
		}
	})
	if later < 100 {
		t.Errorf("%d times later", later)
	}
}

func TestMorePoints(t *testing.T) {
	earlier := 0
	eachLot(t, 900, allShapes(), func(r *rand.Rand, l force.Lot, most int, _ force.Range) {
		program := randomBlocks(r, len(l.Prices), most)
		more := cloned(l)
		phase, temp := r.Intn(3), r.Intn(len(l.Prices))
		points := more.Points[phase][temp]
		more.Points[phase][temp] += r.Intn(api.MaxPoints - points + 1)
		for n, s := range l.Sizes {
			x := randomNeeds(r, s)
			day, other := mustFlower(t, l, program, n, x), mustFlower(t, more, program, n, x)
			if isLater(other, day) {
				t.Fatalf("Flower of %v, %v, the size %d that needs %v: %d, of %v: %d", l, program, n, x, day, more, other)
			}
			if isLater(day, other) {
				earlier++
			}
		}
	})
	if earlier < 100 {
		t.Errorf("%d times earlier", earlier)
	}
}

// P8.10

func TestTwoBlocks(t *testing.T) {
	divided := 0
	eachLot(t, 900, allShapes(), func(r *rand.Rand, l force.Lot, most int, date force.Range) {
		program := randomBlocks(r, len(l.Prices), most)
		n := r.Intn(len(program))
		if len(program) == api.MaxBlocks || program[n].Days == 1 {
			return
		}
		divided++
		first := 1 + r.Intn(program[n].Days-1)
		more := slices.Insert(slices.Clone(program), n, b(program[n].Temp, first))
		more[n+1].Days -= first
		days(t, l, more, mustDays(t, l, program)...)
		costs(t, l, more, mustCost(t, l, program))
		meets(t, l, more, date, mustMeet(t, l, program, date))
	})
	if divided < 200 {
		t.Errorf("%d blocks were divided", divided)
	}
}

// upTo is a program up to and with a day.
func upTo(program []force.Block, day int) []force.Block {
	var first []force.Block
	left := day + 1
	for _, x := range program {
		if left > 0 {
			first = append(first, b(x.Temp, min(x.Days, left)))
		}
		left -= x.Days
	}
	return first
}

func TestBehindTheLastFlower(t *testing.T) {
	shorter, other := 0, 0
	eachLot(t, 1500, allShapes(), func(r *rand.Rand, l force.Lot, most int, _ force.Range) {
		program := randomBlocks(r, len(l.Prices), most)
		all := mustDays(t, l, program)
		last := 0
		for _, d := range all {
			if d.Hi == never {
				return
			}
			last = max(last, d.Hi)
		}
		first := upTo(program, last)
		days(t, l, first, all...)
		if lasts(first) < lasts(program) {
			shorter++
		}
		if left := api.MaxForcing - lasts(first); left > 0 && len(first) < api.MaxBlocks {
			days(t, l, append(first, b(r.Intn(len(l.Prices)), 1+r.Intn(left))), all...)
			other++
		}
	})
	if min(shorter, other) < 100 {
		t.Errorf("%d programs were shorter, %d had other blocks", shorter, other)
	}
}

// P8.11

func TestNoFewerBeds(t *testing.T) {
	eachStays(t, 900, func(r *rand.Rand, l []force.Stay) {
		beds, many, day := bedsOf(t, l)
		if !modelAreBeds(l, beds) || modelOn(l, day) != many {
			t.Fatalf("Beds of %v: %v, %d", l, beds, day)
		}
		for n := range l {
			less := slices.Delete(slices.Clone(l), n, n+1)
			if _, fewer, _ := bedsOf(t, less); fewer > many || fewer < many-1 {
				t.Fatalf("Beds of %v: %d, of %v: %d", l, many, less, fewer)
			}
		}
	})
}

// P8.12

func TestBlocksAlone(t *testing.T) {
	eachLot(t, 600, allShapes(), func(r *rand.Rand, l force.Lot, most int, _ force.Range) {
		program := randomBlocks(r, len(l.Prices), most)
		alone := 0
		for _, x := range program {
			alone += mustCost(t, l, []force.Block{x})
		}
		costs(t, l, program, alone)
	})
}

// P7

// placed is a stay in its bed.
type placed struct {
	stay force.Stay
	bed  int
}

// allPlaced counts the stays in their beds, whatever their order is.
func allPlaced(l []force.Stay, beds []int) map[placed]int {
	all := map[placed]int{}
	for n, s := range l {
		all[placed{s, beds[n]}]++
	}
	return all
}

func TestAnyOrder(t *testing.T) {
	eachStays(t, 600, func(r *rand.Rand, l []force.Stay) {
		turned := slices.Clone(l)
		r.Shuffle(len(turned), func(i, j int) { turned[i], turned[j] = turned[j], turned[i] })
		beds, _, day := bedsOf(t, l)
		other, _, otherDay := bedsOf(t, turned)
		all := allPlaced(l, beds)
		for x, n := range allPlaced(turned, other) {
			if all[x] != n {
				t.Fatalf("Beds of %v: %v, of %v: %v", l, beds, turned, other)
			}
		}
		if day != otherDay {
			t.Fatalf("Beds of %v: the day %d, of %v: %d", l, day, turned, otherDay)
		}
	})
}

// R3

func TestNil(t *testing.T) {
	for _, none := range [][]force.Block{nil, {}} {
		askedCost(t, tulips(), none, api.ErrArg)
		askedDays(t, tulips(), none, api.ErrArg)
	}
	for _, l := range []force.Lot{{}, {Prices: []int{}, Points: [3][]int{{}, {}, {}}, Sizes: []force.Size{}}} {
		if e := force.CheckLot(l); e != api.ErrArg {
			t.Errorf("CheckLot of %v: %v", l, e)
		}
		askedBest(t, l, 3, to(0, 39), api.ErrArg)
	}
	for _, l := range [][]force.Stay{nil, {}} {
		if beds, day := fewest(t, l, 0); len(beds) != 0 || day != -1 {
			t.Errorf("Beds of %v: %v, %d", l, beds, day)
		}
		proves(t, l, nil, -1, true)
		proves(t, l, []int{}, -1, true)
	}
}

// R4

func isSame(l, other force.Lot) bool {
	for phase := range l.Points {
		if !slices.Equal(l.Points[phase], other.Points[phase]) {
			return false
		}
	}
	return slices.Equal(l.Prices, other.Prices) && slices.Equal(l.Sizes, other.Sizes)
}

// roomy is a copy with room behind it, which no call may write into.
func roomy[T any](l []T) []T { return append(make([]T, 0, len(l)+40), l...) }

// room returns what is behind the elements.
func room[T any](l []T) []T { return l[len(l):cap(l)] }

func TestMemory(t *testing.T) {
	eachLot(t, 300, allShapes(), func(r *rand.Rand, l force.Lot, most int, date force.Range) {
		program, stays := randomBlocks(r, len(l.Prices), most), randomStays(r, api.MaxStays, 20)
		before, programBefore, staysBefore := cloned(l), slices.Clone(program), slices.Clone(stays)
		program, stays, l.Prices, l.Sizes = roomy(program), roomy(stays), roomy(l.Prices), roomy(l.Sizes)
		var results [2][][]int
		for n := range results {
			results[n] = allOf(t, l, program, most, date, stays)
			if !isSame(l, before) || !slices.Equal(program, programBefore) || !slices.Equal(stays, staysBefore) {
				t.Fatalf("%v became %v, %v became %v, or %v became %v", before, l, programBefore, program, staysBefore, stays)
			}
		}
		if !slices.EqualFunc(results[0], results[1], slices.Equal) {
			t.Fatalf("the calls for %v, %v return %v, and then %v", l, stays, results[0], results[1])
		}
		wrote := slices.ContainsFunc(room(program), func(x force.Block) bool { return x != b(0, 0) }) ||
			slices.ContainsFunc(room(stays), func(x force.Stay) bool { return x != stay(0, 0) }) ||
			slices.ContainsFunc(room(l.Prices), func(x int) bool { return x != 0 }) ||
			slices.ContainsFunc(room(l.Sizes), func(x force.Size) bool { return x != force.Size{} })
		if wrote {
			t.Fatalf("the calls for %v, %v, %v wrote behind them", l, program, stays)
		}
	})
}

// allOf returns what all calls return, in lists of its own, and writes into what
// they returned.
func allOf(t *testing.T, l force.Lot, program []force.Block, most int, date force.Range, stays []force.Stay) [][]int {
	t.Helper()
	all := [][]int{{mustCost(t, l, program)}}
	if mustMeet(t, l, program, date) {
		all = append(all, []int{1})
	}
	d := mustDays(t, l, program)
	for n, x := range d {
		all = append(all, []int{x.Lo, x.Hi})
		d[n] = to(-9, -9)
	}
	best, cost := bestOf(t, l, most, date)
	for n, x := range best {
		all = append(all, []int{x.Temp, x.Days, cost})
		best[n] = b(-9, -9)
	}
	beds, many, day := bedsOf(t, stays)
	all = append(all, slices.Clone(beds), []int{many, day})
	if !force.ProveBeds(stays, beds, day) {
		t.Errorf("ProveBeds of %v, %v, %d: no", stays, beds, day)
	}
	for n := range beds {
		beds[n] = -9
	}
	_, _, _ = append(d, to(-9, -9)), append(best, b(-9, -9)), append(beds, -9)
	return all
}

// P1

// TestAnything has arguments of all kinds: each call ends, and does not panic.
func TestAnything(t *testing.T) {
	r := rand.New(rand.NewSource(12))
	numbers := append(beyond(0, 4), 0, 1, 2, 3, 39, 40, 100, 1000, 2000, math.MaxInt-1, math.MinInt+1)
	number := func() int { return numbers[r.Intn(len(numbers))] }
	some := func() force.Range { return to(number(), number()) }
	list := func() []int {
		l := make([]int, r.Intn(5))
		for n := range l {
			l[n] = number()
		}
		return l
	}
	for range 5000 {
		wild := force.Lot{Prices: list(), Points: [3][]int{list(), list(), list()}}
		var program []force.Block
		var stays []force.Stay
		for range r.Intn(4) {
			wild.Sizes = append(wild.Sizes, sizeOf(some(), some(), some()))
			program = append(program, b(number(), number()))
			stays = append(stays, stay(number(), number()))
		}
		for _, l := range []force.Lot{wild, tulips(), plain([]int{1}, 1, 1, 1)} {
			force.CheckLot(l)
			for _, p := range [][]force.Block{program, usual(), {b(0, 40)}} {
				force.Cost(l, p)
				force.Days(l, p)
				force.Flower(l, p, number(), needs{number(), number(), number()})
				force.Meets(l, p, some())
			}
			force.Best(l, min(number(), 9), some())
		}
		force.Beds(stays)
		force.ProveBeds(stays, list(), number())
		force.ProveBeds([]force.Stay{stay(0, 3), stay(2, 5)}, list(), number())
	}
}

// TestGreatLots has lots for which all programs have to be looked at: each call
// ends soon.
func TestGreatLots(t *testing.T) {
	for n := range 12 {
		l := plain([]int{1, 1, 1, 1}, 12, 12, 16)
		l.Sizes = slices.Repeat(l.Sizes, api.MaxGrades)
		best(t, l, 40, to(39, 39), 0, b(0, 40))
		l.Sizes[n%api.MaxGrades].Needs[2].Hi = 17
		askedBest(t, l, 40, to(0, 39), api.ErrFail)
	}
	most := full()
	askedBest(t, most, 40, to(0, 39), api.ErrFail)
	for n := range most.Sizes {
		most.Sizes[n] = sizeOf(to(1, 1300), to(1, 1300), to(1, 1400))
	}
	best(t, most, 40, to(2, 39), 40*api.MaxHeating, b(0, 40))
}

package right_test

import (
	"math"
	"math/rand"
	"slices"
	"testing"

	"bybloem/api"
	"bybloem/right"
)

func mustAdmit(t *testing.T, l []right.Application) []bool {
	t.Helper()
	is, e := right.Admit(l)
	if e != api.OK || len(is) != len(l) {
		t.Fatalf("Admit of %v: %v, %v", l, is, e)
	}
	return is
}

func mustRights(t *testing.T, l []right.Variety, distance int) []int {
	t.Helper()
	owners, e := right.Rights(l, distance)
	if e != api.OK || len(owners) != len(l) {
		t.Fatalf("Rights of %v for %d: %v, %v", l, distance, owners, e)
	}
	return owners
}

func mustShare(t *testing.T, l []right.Licence, u []right.Use) ([][]int, int) {
	t.Helper()
	shares, shortage, e := right.Share(l, u)
	if e != api.OK {
		t.Fatalf("Share of %v, %v: %v", l, u, e)
	}
	return shares, shortage
}

// mustPapers also returns whether the trip can begin.
func mustPapers(t *testing.T, x right.Trip, day int) ([][]int, int, bool) {
	t.Helper()
	papers, price, e := right.Papers(x, day)
	if e == api.ErrFail {
		return nil, 0, false
	}
	if e != api.OK || len(papers) != len(x.Prices) {
		t.Fatalf("Papers of %v on the day %d: %v, %d, %v", x, day, papers, price, e)
	}
	return papers, price, true
}

// shuffled returns the list in another order, and where its elements were before.
func shuffled[T any](r *rand.Rand, l []T) (other []T, from []int) {
	from = r.Perm(len(l))
	for _, n := range from {
		other = append(other, l[n])
	}
	return other, from
}

// P11.7

func TestNamesThatHold(t *testing.T) {
	c := counts{}
	repeat(t, 2000, func(r *rand.Rand, n int) {
		l := randomApplications(r)
		is := mustAdmit(t, l)
		for n, a := range l {
			isNear := false
			for i, b := range l {
				isAhead := b.Day < a.Day || b.Day == a.Day && (b.Name < a.Name || b.Name == a.Name && i < n)
				if near, e := right.Near(a.Name, b.Name); is[i] && isAhead && a.Day < b.Until && near && e == api.OK {
					isNear = true
				}
			}
			c.add("admitted", is[n])
			if is[n] == isNear {
				t.Fatalf("Admit of %v: %v, but %v is near one that holds: %v", l, is, a, isNear)
			}
		}
	})
	c.areMany(t, 1, 1000)
}

func TestAdmitInAnyOrder(t *testing.T) {
	repeat(t, 1000, func(r *rand.Rand, n int) {
		var l []right.Application
		for _, a := range randomApplications(r) {
			isSame := func(b right.Application) bool { return a.Day == b.Day && a.Name == b.Name }
			if !slices.ContainsFunc(l, isSame) {
				l = append(l, a)
			}
		}
		is := mustAdmit(t, l)
		other, from := shuffled(r, l)
		now := mustAdmit(t, other)
		for n, i := range from {
			if now[n] != is[i] {
				t.Fatalf("Admit of %v: %v, and of %v: %v", l, is, other, now)
			}
		}
	})
}

// P11.8

func TestSports(t *testing.T) {
	c := counts{}
	repeat(t, 1000, func(r *rand.Rand, n int) {
		l := randomVarieties(r)
		var before []int
		for distance := range api.MaxTraitsOf + 1 {
			owners := mustRights(t, l, distance)
			for n, v := range l {
				isOwn, isOfParent := owners[n] == v.Breeder, v.Parent >= 0 && owners[n] == owners[v.Parent]
				isDistinct := v.Parent < 0 || modelDistinct(l, n, distance)
				if !isOwn && !isOfParent || isDistinct && !isOwn || !isDistinct && !isOfParent || distance == 0 && !isOwn {
					t.Fatalf("Rights of %v for %d: %v", l, distance, owners)
				}
				if distance > 0 && v.Parent >= 0 && !modelDistinct(l, n, distance-1) && isDistinct {
					t.Fatalf("%v is distinct for the distance %d, and not for less", v, distance)
				}
				c.add("distinct", isDistinct)
				c.add("as for less", distance > 0 && before[n] == owners[n])
			}
			before = owners
		}
	})
	c.areMany(t, 2, 1000)
}

// TestSportOfASport has sports that are not distinct at the end of other varieties.
func TestSportOfASport(t *testing.T) {
	repeat(t, 1000, func(r *rand.Rand, n int) {
		l := randomVarieties(r)
		if len(l) == 0 || len(l)+2 > api.MaxVarieties {
			return
		}
		first := l[r.Intn(len(l))]
		parent := slices.IndexFunc(l, func(v right.Variety) bool { return slices.Equal(v.Traits, first.Traits) })
		for range 2 {
			l = append(l, right.Variety{Parent: parent, Breeder: r.Intn(100), Traits: slices.Clone(l[parent].Traits)})
			parent = len(l) - 1
		}
		for distance := 1; distance <= api.MaxTraitsOf; distance++ {
			owners := mustRights(t, l, distance)
			if last := owners[l[parent-1].Parent]; owners[parent] != last || owners[parent-1] != last {
				t.Fatalf("Rights of %v for %d: %v", l, distance, owners)
			}
		}
	})
}

// P11.9

// randomShares are a share-out of some kind.
func randomShares(r *rand.Rand, l []right.Licence, u []right.Use) [][]int {
	shares := noShares(l, u)
	left := make([]int, len(l))
	for n := range l {
		left[n] = l[n].Bulbs
	}
	for _, n := range r.Perm(len(u)) {
		missing := u[n].Bulbs
		for _, i := range r.Perm(len(l)) {
			if !modelCovers(l[i], u[n]) {
				continue
			}
			shares[n][i] = min(missing, left[i])
			if r.Intn(4) == 0 {
				shares[n][i] = r.Intn(shares[n][i] + 1)
			}
			missing -= shares[n][i]
			left[i] -= shares[n][i]
		}
	}
	return shares
}

func TestCounted(t *testing.T) {
	c := counts{}
	repeat(t, 1500, func(r *rand.Rand, n int) {
		l, u := randomBook(r, slices.Concat(fewBulbs, manyBulbs)[n%10])
		_, shortage := mustShare(t, l, u)
		for range 5 {
			shares := randomShares(r, l, u)
			left := modelLeft(l, u, shares)
			if left < shortage {
				t.Fatalf("Share of %v, %v: %d, but %v leave %d", l, u, shortage, shares, left)
			}
			c.add("as few", left == shortage)
			provesShare(t, "any shares", l, u, shares, left, true)
			provesShare(t, "any shares", l, u, shares, shortage-1, false)
			var uses []int
			for n := range u {
				if r.Intn(3) > 0 {
					uses = append(uses, n)
				}
			}
			provesLack(t, "any uses", l, u, uses, shortage+1, false)
		}
		isShort(t, "any book", l, u, shortage)
	})
	c.areMany(t, 1, 300)
}

// P11.10

func TestMoreLicences(t *testing.T) {
	c := counts{}
	repeat(t, 3000, func(r *rand.Rand, n int) {
		l, u := randomBook(r, slices.Concat(fewBulbs, manyBulbs)[n%10])
		if len(l) == 0 {
			return
		}
		_, shortage := mustShare(t, l, u)
		now, i := slices.Clone(l), r.Intn(len(l))
		now[i].Bulbs = min(api.MaxLicensed, now[i].Bulbs+r.Intn(9))
		if _, less := mustShare(t, now, u); less > shortage || shortage-less > now[i].Bulbs-l[i].Bulbs {
			t.Fatalf("Share of %v, %v: %d, with %v: %d", l, u, shortage, now, less)
		} else {
			c.add("less short with more bulbs", less < shortage)
		}
		now = slices.Clone(l)
		now[i].From, now[i].To = max(0, now[i].From-r.Intn(9)), min(api.MaxDate, now[i].To+r.Intn(9))
		if _, less := mustShare(t, now, u); less > shortage || shortage-less > l[i].Bulbs {
			t.Fatalf("Share of %v, %v: %d, with %v: %d", l, u, shortage, now, less)
		} else {
			c.add("less short with a longer one", less < shortage)
		}
	})
	c.areMany(t, 2, 100)
}

func TestMoreUses(t *testing.T) {
	c := counts{}
	repeat(t, 2000, func(r *rand.Rand, n int) {
		l, u := randomBook(r, slices.Concat(fewBulbs, manyBulbs)[n%10])
		_, more := mustShare(t, l, u)
		for n := range u {
			_, shortage := mustShare(t, l, slices.Delete(slices.Clone(u), n, n+1))
			if more < shortage || more-shortage > u[n].Bulbs {
				t.Fatalf("Share of %v, %v: %d, without the use %d: %d", l, u, more, n, shortage)
			}
			c.add("shorter with one more", more > shortage)
		}
		licences, _ := shuffled(r, l)
		uses, _ := shuffled(r, u)
		isShort(t, "another order", licences, uses, more)
	})
	c.areMany(t, 1, 300)
}

// P11.11

func TestPapersAreEnough(t *testing.T) {
	c := counts{}
	repeat(t, 1500, func(r *rand.Rand, n int) {
		x := randomTrip(r, slices.Concat(shortTours, longTours)[n%8])
		day := between(r, x.First, x.Last)
		papers, price, can := mustPapers(t, x, day)
		c.add("can begin", can)
		for kind, l := range papers {
			price -= len(l) * x.Prices[kind]
			isEarly := func(issued int) bool { return issued < x.Waits[kind] }
			if slices.ContainsFunc(l, isEarly) || !isEnough(x, day, kind, l) || !rising(l) {
				t.Fatalf("Papers of %v on the day %d: %v", x, day, papers)
			}
			standsApart(t, "any trip", x, day, kind, len(l))
			c.add("more than one", len(l) > 1)
		}
		if price != 0 {
			t.Fatalf("Papers of %v on the day %d: %v, and %d too much", x, day, papers, price)
		}
	})
	c.areMany(t, 2, 300)
}

// P11.12

// easier makes a trip one that is easier, in one way.
func easier(r *rand.Rand, x right.Trip) right.Trip {
	x = cloned(x)
	visit := r.Intn(max(1, len(x.Visits)))
	kind := r.Intn(len(x.Prices))
	switch n := r.Intn(3); {
	case n == 0:
		x.Waits[kind] -= r.Intn(min(x.Waits[kind], 40) + 1)
	case len(x.Visits) == 0:
	case n == 1:
		x.Visits = slices.Delete(x.Visits, visit, visit+1)
	case x.Visits[visit].Ages[kind] >= 0:
		x.Visits[visit].Ages[kind] = between(r, x.Visits[visit].Ages[kind], api.MaxAfter)
	}
	return x
}

func TestEasier(t *testing.T) {
	c := counts{}
	repeat(t, 4000, func(r *rand.Rand, n int) {
		x := randomTrip(r, slices.Concat(shortTours, longTours)[n%8])
		now := easier(r, x)
		for day := x.First; day <= x.Last; day += 1 + r.Intn(9) {
			_, price, could := mustPapers(t, x, day)
			_, less, can := mustPapers(t, now, day)
			if could && (!can || less > price) {
				t.Fatalf("Papers of %v on the day %d: %d, of %v: %d, %v", x, day, price, now, less, can)
			}
			c.add("can begin now", can && !could)
			c.add("cheaper", could && less < price)
		}
		_, price, e := right.Cheapest(x)
		if _, less, f := right.Cheapest(now); e == api.OK && (f != api.OK || less > price) {
			t.Fatalf("Cheapest of %v: %d, of %v: %d, %v", x, price, now, less, f)
		}
	})
	c.areMany(t, 2, 100)
}

// P11.13

func TestBegins(t *testing.T) {
	c := counts{}
	repeat(t, 1000, func(r *rand.Rand, n int) {
		x := randomTrip(r, slices.Concat(shortTours, longTours)[n%8])
		day, price, e := right.Cheapest(x)
		c.add("can begin", e == api.OK)
		if e == api.OK && (day < x.First || day > x.Last) {
			t.Fatalf("Cheapest of %v: %d", x, day)
		}
		for d := x.First; d <= x.Last; d++ {
			_, other, can := mustPapers(t, x, d)
			isIt := e == api.OK && d == day
			if can && e != api.OK || isIt && (!can || other != price) || can && (other < price || d < day && other == price) {
				t.Fatalf("Cheapest of %v: %d, %d, %v, and Papers on the day %d: %d, %v", x, day, price, e, d, other, can)
			}
			c.add("on that day", can)
		}
	})
	c.areMany(t, 2, 100)
}

// R3

func TestNil(t *testing.T) {
	l, u := example()
	for _, none := range [][]right.Licence{nil, {}} {
		isShort(t, "no licences", none, u, 95)
		isShort(t, "nothing", none, nil, 0)
		isShort(t, "nothing", none, []right.Use{}, 0)
	}
	for _, none := range [][]right.Use{nil, {}} {
		isShort(t, "no uses", l, none, 0)
		provesLack(t, "no uses", l, none, []int{}, 0, true)
	}
	admits(t, "no applications", []right.Application{})
	belongs(t, "no varieties", []right.Variety{}, 5)
	askedRights(t, []right.Variety{{Parent: -1, Traits: []int{}}}, 0, api.ErrArg)
	none := daily()
	none.Visits = []right.Visit{}
	hasPapers(t, "no visits", none, 100, 0, []int{})
	for _, empty := range [][]int{nil, {}} {
		x := travel()
		x.Prices, x.Waits, x.Visits = empty, empty, nil
		askedCheapest(t, x, api.ErrArg)
	}
}

// R4

// roomy is a copy with room behind it, which no call may write into.
func roomy[T any](l []T) []T { return append(make([]T, 0, len(l)+40), l...) }

// isUntouched tells whether a roomy list is as it was, and all behind it, too.
func isUntouched[T comparable](l, before []T) bool {
	var zero T
	behind := func(x T) bool { return x != zero }
	return slices.Equal(l, before) && !slices.ContainsFunc(l[len(l):cap(l)], behind)
}

// spoil writes into a result, and behind it.
func spoil[T any](l []T, with T) {
	l = l[:cap(l)]
	for n := range l {
		l[n] = with
	}
}

// taken is a copy of lists, each of which is spoiled before the next one is looked at.
func taken(lists ...[]int) [][]int {
	var all [][]int
	for _, l := range lists {
		all = append(all, slices.Clone(l))
		spoil(l, -9)
	}
	return all
}

func TestMemoryOfNames(t *testing.T) {
	repeat(t, 300, func(r *rand.Rand, n int) {
		before, varieties, distance := randomApplications(r), randomVarieties(r), r.Intn(6)
		l := roomy(before)
		var traits [][]int
		for n := range varieties {
			traits = append(traits, slices.Clone(varieties[n].Traits))
			varieties[n].Traits = roomy(varieties[n].Traits)
		}
		of := func() ([]bool, []int) {
			is, owners := mustAdmit(t, l), mustRights(t, varieties, distance)
			admitted, to := slices.Clone(is), slices.Clone(owners)
			spoil(is, true)
			spoil(owners, -9)
			return admitted, to
		}
		is, owners := of()
		again, to := of()
		if !slices.Equal(is, again) || !slices.Equal(owners, to) || !isUntouched(l, before) {
			t.Fatalf("Admit of %v: %v, and then %v; Rights of %v: %v, and then %v", before, is, again, varieties, owners, to)
		}
		for n, v := range varieties {
			if !isUntouched(v.Traits, traits[n]) {
				t.Fatalf("Rights changed the traits %v to %v", traits[n], v.Traits)
			}
		}
	})
}

func TestMemoryOfBooks(t *testing.T) {
	repeat(t, 500, func(r *rand.Rand, n int) {
		licences, uses := randomBook(r, slices.Concat(fewBulbs, manyBulbs)[n%10])
		l, u := roomy(licences), roomy(uses)
		of := func() [][]int {
			shares, shortage := mustShare(t, l, u)
			showing, lack, e := right.Lack(l, u)
			given, list := roomy(showing), [][]int{}
			for _, row := range shares {
				list = append(list, roomy(row))
			}
			if !right.ProveShare(l, u, list, shortage) || !right.ProveLack(l, u, given, lack) || e != api.OK {
				t.Fatalf("Share of %v, %v: %v; Lack: %v, %v", l, u, shares, showing, e)
			}
			if !isUntouched(given, showing) || !slices.EqualFunc(list, shares, isUntouched) {
				t.Fatalf("the proofs for %v, %v changed %v, %v", l, u, shares, showing)
			}
			return append(taken(append(shares, showing)...), []int{shortage, lack})
		}
		if one, other := of(), of(); !isSame(one, other) || !isUntouched(l, licences) || !isUntouched(u, uses) {
			t.Fatalf("the calls for %v, %v return %v, and then %v", licences, uses, one, other)
		}
	})
}

func TestMemoryOfTrips(t *testing.T) {
	repeat(t, 500, func(r *rand.Rand, n int) {
		before := randomTrip(r, slices.Concat(shortTours, longTours)[n%8])
		x := cloned(before)
		x.Prices, x.Waits, x.Visits = roomy(x.Prices), roomy(x.Waits), roomy(x.Visits)
		for n := range x.Visits {
			x.Visits[n].Ages = roomy(x.Visits[n].Ages)
		}
		day := between(r, x.First, x.Last)
		of := func() [][]int {
			papers, price, _ := mustPapers(t, x, day)
			best, least, _ := right.Cheapest(x)
			all := append(taken(papers...), []int{price, best, least})
			for kind := range x.Prices {
				visits, e := right.Apart(x, day, kind)
				all = append(all, append(taken(visits), []int{int(e)})...)
			}
			return all
		}
		one, other := of(), of()
		if !isSame(one, other) || !isUntouched(x.Prices, before.Prices) || !isUntouched(x.Waits, before.Waits) {
			t.Fatalf("the calls for %v return %v, and then %v", before, one, other)
		}
		for n, v := range x.Visits[:cap(x.Visits)] {
			if n >= len(before.Visits) && (v.After != 0 || v.Ages != nil) || n < len(before.Visits) && (v.After != before.Visits[n].After || !isUntouched(v.Ages, before.Visits[n].Ages)) {
				t.Fatalf("the calls for %v changed its visits to %v", before, x.Visits[:cap(x.Visits)])
			}
		}
	})
}

// P1

// wild has numbers of all kinds.
type wild struct{ *rand.Rand }

func (w wild) number() int {
	all := append(beyond(0, 5), 0, 0, 1, 1, 2, 3, 4, 5, 9, 12, 13, 60, 61, 99, 100, 400, 401, 10000, 100000, 100001, 1000000, math.MaxInt-1, math.MinInt+1, math.MaxInt/1000)
	return all[w.Intn(len(all))]
}

func (w wild) list(most int) []int {
	var l []int
	for range w.Intn(most + 1) {
		l = append(l, w.number())
	}
	return l
}

func (w wild) lists(most int) [][]int {
	var l [][]int
	for range w.Intn(most + 1) {
		l = append(l, w.list(most))
	}
	return l
}

func (w wild) name() string {
	b := make([]byte, w.Intn(14))
	for n := range b {
		b[n] = byte('a' + w.Intn(3))
		if w.Intn(9) == 0 {
			b[n] = byte(w.Intn(256))
		}
	}
	return string(b)
}

// TestAnything has arguments of all kinds: each call ends, and does not panic.
func TestAnything(t *testing.T) {
	w := wild{rand.New(rand.NewSource(12))}
	for range 20000 {
		var l []right.Application
		var varieties []right.Variety
		var licences []right.Licence
		var uses []right.Use
		for range w.Intn(4) {
			l = append(l, right.Application{Name: w.name(), Day: w.number(), Until: w.number()})
			varieties = append(varieties, right.Variety{Parent: w.number(), Breeder: w.number(), Traits: w.list(4)})
			licences = append(licences, right.Licence{Grower: w.number(), Variety: w.number(), From: w.number(), To: w.number(), Bulbs: w.number()})
			uses = append(uses, right.Use{Grower: w.number(), Variety: w.number(), Day: w.number(), Bulbs: w.number()})
		}
		right.Near(w.name(), w.name())
		right.Admit(l)
		right.Rights(varieties, w.number())
		books := []func() ([]right.Licence, []right.Use){func() ([]right.Licence, []right.Use) { return licences, uses }, example}
		for _, book := range books {
			licences, uses := book()
			right.Share(licences, uses)
			right.Lack(licences, uses)
			right.ProveShare(licences, uses, w.lists(3), w.number())
			right.ProveShare(licences, uses, [][]int{w.list(2), w.list(2), {w.number(), w.number()}}, w.number())
			right.ProveLack(licences, uses, w.list(3), w.number())
		}
		trip := right.Trip{First: w.number(), Last: w.number(), Prices: w.list(3), Waits: w.list(3)}
		for range w.Intn(3) {
			trip.Visits = append(trip.Visits, right.Visit{After: w.number(), Ages: w.list(3)})
		}
		for _, x := range []right.Trip{trip, travel()} {
			right.Papers(x, w.number())
			right.Apart(x, w.number(), w.number())
			right.Cheapest(x)
		}
	}
}

// TestGreatArguments has as much as there can be, with which each call ends soon.
func TestGreatArguments(t *testing.T) {
	var l []right.Licence
	var u []right.Use
	for n := range api.MaxLicences {
		l = append(l, until(n*1000, n*1000+50000, api.MaxLicensed-n))
		u = append(u, on(n*5000, api.MaxLicensed-2*n))
	}
	x := right.Trip{First: 1000, Last: 1000 + api.MaxWindow, Prices: slices.Repeat([]int{api.MaxCharge}, api.MaxKindsOf), Waits: slices.Repeat([]int{1000}, api.MaxKindsOf)}
	for n := range api.MaxVisits {
		x.Visits = append(x.Visits, right.Visit{After: api.MaxAfter - n, Ages: slices.Repeat([]int{n % 3}, api.MaxKindsOf)})
	}
	name := "aaaaaaaaaaaa"
	var applications []right.Application
	for n := range api.MaxApplications {
		applications = append(applications, app(name[n%5:], n%4, api.MaxDate))
	}
	want := modelShortage(l, u)
	for range 200 {
		isShort(t, "a great book", l, u, want)
		papers, price, _ := modelPrice(x, 1000)
		hasPapers(t, "a great trip", x, 1000, price, papers...)
		isCheapest(t, "a great trip", x, 1000, price)
		admits(t, "great applications", applications, modelAdmit(applications)...)
	}
}

package right_test

import (
	"math/rand"
	"slices"
	"testing"

	"bybloem/api"
	"bybloem/right"
)

// The model writes down all names that a name becomes, decides applications one after
// the other, goes up from sport to sport, looks at all lists of uses and at all papers,
// and goes through the days of a trip. Random arguments, always the same ones, are
// done by both.

// modelBecomes are the name, and what it becomes by changing one letter, or by taking
// one letter out.
func modelBecomes(name string) map[string]bool {
	all := map[string]bool{name: true}
	for n := range len(name) {
		all[name[:n]+name[n+1:]] = true
		for letter := byte('a'); letter <= 'z'; letter++ {
			all[name[:n]+string([]byte{letter})+name[n+1:]] = true
		}
	}
	return all
}

func modelNear(a, b string) bool { return modelBecomes(a)[b] || modelBecomes(b)[a] }

// modelAdmit looks for the next application again and again.
func modelAdmit(l []right.Application) []bool {
	admitted, decided := make([]bool, len(l)), make([]bool, len(l))
	for range l {
		next := -1
		for n, a := range l {
			if decided[n] {
				continue
			}
			if next < 0 || a.Day < l[next].Day || a.Day == l[next].Day && a.Name < l[next].Name {
				next = n
			}
		}
		is := true
		for n, a := range l {
			if admitted[n] && l[next].Day < a.Until && modelNear(a.Name, l[next].Name) {
				is = false
			}
		}
		decided[next], admitted[next] = true, is
	}
	return admitted
}

// modelDistinct tells whether at least so many traits of a sport differ from those of
// its parent.
func modelDistinct(l []right.Variety, n, distance int) bool {
	for trait, number := range l[n].Traits {
		if number != l[l[n].Parent].Traits[trait] {
			distance--
		}
	}
	return distance <= 0
}

func modelRights(l []right.Variety, distance int) []int {
	var rights []int
	for n := range l {
		for l[n].Parent >= 0 && !modelDistinct(l, n, distance) {
			n = l[n].Parent
		}
		rights = append(rights, l[n].Breeder)
	}
	return rights
}

func modelCovers(l right.Licence, u right.Use) bool {
	return l.Grower == u.Grower && l.Variety == u.Variety && l.From <= u.Day && u.Day <= l.To
}

// modelLeft is how many bulbs of all uses the shares leave without a licence, or -1
// if they are no share-out.
func modelLeft(l []right.Licence, u []right.Use, shares [][]int) int {
	if len(shares) != len(u) {
		return -1
	}
	left := 0
	on := make([]float64, len(l)) // so that nothing is too great
	for n, row := range shares {
		if len(row) != len(l) {
			return -1
		}
		of := 0.0
		for i, bulbs := range row {
			if bulbs < 0 || bulbs > 0 && !modelCovers(l[i], u[n]) {
				return -1
			}
			of += float64(bulbs)
			on[i] += float64(bulbs)
		}
		if of > float64(u[n].Bulbs) {
			return -1
		}
		left += u[n].Bulbs - int(of)
	}
	for i, bulbs := range on {
		if bulbs > float64(l[i].Bulbs) {
			return -1
		}
	}
	return left
}

// modelLack is the lack of some of the uses.
func modelLack(l []right.Licence, u []right.Use, isOne func(n int) bool) int {
	lack := 0
	isCovering := make([]bool, len(l))
	for n, x := range u {
		if !isOne(n) {
			continue
		}
		lack += x.Bulbs
		for i := range l {
			isCovering[i] = isCovering[i] || modelCovers(l[i], x)
		}
	}
	for i, is := range isCovering {
		if is {
			lack -= l[i].Bulbs
		}
	}
	return max(lack, 0)
}

// modelShortage is the most that any uses lack.
func modelShortage(l []right.Licence, u []right.Use) int {
	most := 0
	for set := range 1 << len(u) {
		most = max(most, modelLack(l, u, func(n int) bool { return set>>n&1 == 1 }))
	}
	return most
}

// modelLeast looks at all share-outs, bulb by bulb: each one is without a licence, or
// on one of those that cover its use.
func modelLeast(l []right.Licence, u []right.Use) int {
	left := make([]int, len(l))
	for i := range l {
		left[i] = l[i].Bulbs
	}
	var find func(n, bulb int) int
	find = func(n, bulb int) int {
		if n == len(u) {
			return 0
		}
		if bulb == u[n].Bulbs {
			return find(n+1, 0)
		}
		least := 1 + find(n, bulb+1)
		for i := range l {
			if left[i] > 0 && modelCovers(l[i], u[n]) {
				left[i]--
				least = min(least, find(n, bulb+1))
				left[i]++
			}
		}
		return least
	}
	return find(0, 0)
}

func rising(l []int) bool {
	for n := range l {
		if n > 0 && l[n-1] >= l[n] {
			return false
		}
	}
	return true
}

func isUse(u []right.Use) func(n int) bool {
	return func(n int) bool { return n >= 0 && n < len(u) }
}

// asks tells whether the visit asks for the kind.
func asks(t right.Trip, visit, kind int) bool { return t.Visits[visit].Ages[kind] >= 0 }

// serves tells whether a paper of the kind that is issued on a day serves a visit that
// asks for it.
func serves(t right.Trip, day, kind, visit, issued int) bool {
	on := day + t.Visits[visit].After
	return issued >= t.Waits[kind] && issued <= on && on-issued <= t.Visits[visit].Ages[kind]
}

func isEnough(t right.Trip, day, kind int, papers []int) bool {
	for visit := range t.Visits {
		is := func(issued int) bool { return serves(t, day, kind, visit, issued) }
		if asks(t, visit, kind) && !slices.ContainsFunc(papers, is) {
			return false
		}
	}
	return true
}

// modelPapers goes through the days of the trip, and issues a paper on each one with
// a visit that has none. It is nil and false where no papers are enough.
func modelPapers(t right.Trip, day, kind int) ([]int, bool) {
	var papers []int
	for d := day; d <= day+api.MaxAfter; d++ {
		for visit := range t.Visits {
			is := func(issued int) bool { return serves(t, day, kind, visit, issued) }
			if !asks(t, visit, kind) || day+t.Visits[visit].After != d || slices.ContainsFunc(papers, is) {
				continue
			}
			if d < t.Waits[kind] {
				return nil, false
			}
			papers = append(papers, d)
		}
	}
	return papers, true
}

// modelFewest looks at each day on which a paper can be issued for a visit that has
// none. It is never if no papers are enough.
func modelFewest(t right.Trip, day, kind int) int {
	var find func(papers []int) int
	find = func(papers []int) int {
		for visit := range t.Visits {
			is := func(issued int) bool { return serves(t, day, kind, visit, issued) }
			if !asks(t, visit, kind) || slices.ContainsFunc(papers, is) {
				continue
			}
			least := never
			for issued := day + t.Visits[visit].After; is(issued); issued-- {
				least = min(least, 1+find(append(papers, issued)))
			}
			return least
		}
		return 0
	}
	return find(nil)
}

// never is more than any papers.
const never = 1000

// standApart looks at each day on which a paper can be issued.
func standApart(t right.Trip, day, kind int, visits []int) bool {
	isAsked := func(visit int) bool { return isUse(make([]right.Use, len(t.Visits)))(visit) && asks(t, visit, kind) }
	for _, visit := range visits {
		if !isAsked(visit) {
			return false
		}
	}
	for issued := t.Waits[kind]; issued <= day+api.MaxAfter; issued++ {
		served := 0
		for _, visit := range visits {
			if serves(t, day, kind, visit, issued) {
				served++
			}
		}
		if served > 1 {
			return false
		}
	}
	return true
}

// modelMostApart looks at all lists of visits.
func modelMostApart(t right.Trip, day, kind int) int {
	most := 0
	for set := range 1 << len(t.Visits) {
		var visits []int
		for visit := range t.Visits {
			if set>>visit&1 == 1 {
				visits = append(visits, visit)
			}
		}
		if len(visits) > most && standApart(t, day, kind, visits) {
			most = len(visits)
		}
	}
	return most
}

// modelPrice is what all kinds cost, and whether the trip can begin.
func modelPrice(t right.Trip, day int) (papers [][]int, price int, can bool) {
	for kind, each := range t.Prices {
		l, is := modelPapers(t, day, kind)
		if !is {
			return nil, 0, false
		}
		papers = append(papers, l)
		for range l {
			price += each
		}
	}
	return papers, price, true
}

// modelCheapest goes from the last day back to the first one.
func modelCheapest(t right.Trip) (day, price int, can bool) {
	for d := t.Last; d >= t.First; d-- {
		if _, n, is := modelPrice(t, d); is && (!can || n <= price) {
			day, price, can = d, n, true
		}
	}
	return day, price, can
}

// Random arguments.

// between is a random number from low to high.
func between(r *rand.Rand, low, high int) int { return low + r.Intn(high-low+1) }

// randomName has one of a few letters at each place, and mostly one of a few lengths.
func randomName(r *rand.Rand, letters, length int) string {
	name := ""
	for range max(1, length-r.Intn(3)) {
		name += string([]byte{byte('a' + r.Intn(letters))})
	}
	return name
}

// changedName is a name like this one: near, or nearly so.
func changedName(r *rand.Rand, name string) string {
	for range 1 + r.Intn(2) {
		n := r.Intn(len(name))
		switch letter := string([]byte{byte('a' + r.Intn(26))}); {
		case r.Intn(3) == 0 && len(name) > 1:
			name = name[:n] + name[n+1:]
		case r.Intn(2) == 0 && len(name) < api.MaxName:
			name = name[:n] + letter + name[n:]
		default:
			name = name[:n] + letter + name[n+1:]
		}
	}
	return name
}

// randomApplications are for names that are often near, on days that are often the
// same.
func randomApplications(r *rand.Rand) []right.Application {
	days := []int{3, 9, 30, api.MaxDate}[r.Intn(4)]
	letters, length := between(r, 2, 26), between(r, 1, api.MaxName)
	var l []right.Application
	for range r.Intn(api.MaxApplications + 1) {
		name := randomName(r, letters, length)
		if len(l) > 0 && r.Intn(2) == 0 {
			name = changedName(r, l[r.Intn(len(l))].Name)
		}
		day := r.Intn(days)
		l = append(l, right.Application{Name: name, Day: day, Until: between(r, day+1, min(days, day+1+r.Intn(days)))})
	}
	return l
}

// randomVarieties have traits that are mostly those of the parent.
func randomVarieties(r *rand.Rand) []right.Variety {
	traits := between(r, 1, api.MaxTraitsOf)
	var l []right.Variety
	for n := range r.Intn(api.MaxVarieties + 1) {
		v := right.Variety{Parent: max(-1, r.Intn(n+2)-2), Breeder: r.Intn(api.MaxParty + 1)}
		for trait := range traits {
			number := r.Intn(100)
			if v.Parent >= 0 && r.Intn(2) == 0 {
				number = l[v.Parent].Traits[trait]
			}
			v.Traits = append(v.Traits, number)
		}
		l = append(l, v)
	}
	return l
}

// wants is how great random licences and uses are at most.
type wants struct{ licences, uses, matters, days, bulbs int }

var (
	fewBulbs  = []wants{{3, 3, 1, 6, 3}, {2, 4, 1, 4, 2}, {4, 2, 2, 5, 4}}
	manyBulbs = []wants{{12, 12, 1, 20, 9}, {12, 12, 1, 40, 100}, {12, 12, 2, 12, api.MaxLicensed}, {6, 12, 1, 30, 50}, {12, 6, 1, 30, 50}, {12, 12, 1, api.MaxDate, api.MaxLicensed}, {7, 7, 3, 9, 5}}
)

func randomBook(r *rand.Rand, w wants) ([]right.Licence, []right.Use) {
	grower, variety := r.Intn(99), r.Intn(99)
	matter := func() (int, int) { n := r.Intn(w.matters); return grower + n&1, variety + n>>1 }
	var l []right.Licence
	for range r.Intn(w.licences + 1) {
		x := right.Licence{From: r.Intn(w.days + 1), Bulbs: r.Intn(w.bulbs + 1)}
		x.To = between(r, x.From, min(w.days, x.From+w.days/between(r, 1, 4)))
		x.Grower, x.Variety = matter()
		l = append(l, x)
	}
	var u []right.Use
	for range r.Intn(w.uses + 1) {
		x := right.Use{Day: r.Intn(w.days + 1), Bulbs: r.Intn(w.bulbs/between(r, 1, 4) + 1)}
		x.Grower, x.Variety = matter()
		u = append(u, x)
	}
	return l, u
}

// tour is how great a random trip is at most: the days up to its visits, and the ages
// of papers.
type tour struct{ after, ages int }

var (
	shortTours = []tour{{8, 4}, {20, 5}, {5, 1}, {12, 3}}
	longTours  = []tour{{api.MaxAfter, api.MaxAfter}, {api.MaxAfter, 90}, {60, 20}, {200, 60}}
)

// randomTrip can often begin on some of its days, and not on all.
func randomTrip(r *rand.Rand, w tour) right.Trip {
	t := right.Trip{First: r.Intn(api.MaxDate - api.MaxWindow)}
	if r.Intn(4) == 0 {
		t.First = r.Intn(20)
	}
	t.Last = t.First + r.Intn(min(w.after, api.MaxWindow)+1)
	for range between(r, 1, api.MaxKindsOf) {
		t.Prices = append(t.Prices, r.Intn([]int{10, api.MaxCharge}[r.Intn(2)]+1))
		t.Waits = append(t.Waits, max(0, min(api.MaxDate, t.First+r.Intn(w.after+1)-w.after/2)))
	}
	for range r.Intn(api.MaxVisits + 1) {
		v := right.Visit{After: r.Intn(w.after + 1)}
		for range t.Prices {
			v.Ages = append(v.Ages, max(-1, r.Intn(w.ages+3)-2))
		}
		t.Visits = append(t.Visits, v)
	}
	return t
}

// repeat calls a test with random numbers, always the same ones.
func repeat(t *testing.T, n int, test func(r *rand.Rand, n int)) {
	t.Helper()
	r := rand.New(rand.NewSource(11))
	for i := range n {
		test(r, i)
		if t.Failed() {
			return
		}
	}
}

// counts tells how often what tests are about was so, and was not.
type counts map[string]int

func (c counts) add(name string, is bool) {
	if !is {
		name = "not " + name
	}
	c[name]++
}

// areMany asks whether all of it was so often enough, and was not.
func (c counts) areMany(t *testing.T, kinds, least int) {
	t.Helper()
	for name, n := range c {
		if n < least {
			t.Errorf("%s: %d times", name, n)
		}
	}
	if len(c) != 2*kinds {
		t.Errorf("not all that was counted was so, and was not so: %v", c)
	}
}

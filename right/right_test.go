package right_test

import (
	"math"
	"math/rand"
	"slices"
	"strings"
	"testing"

	"bybloem/api"
	"bybloem/right"
)

// beyond are numbers that are not from low to high.
func beyond(low, high int) []int {
	return []int{low - 1, high + 1, math.MinInt, math.MaxInt}
}

// badNames are no names.
func badNames() []string {
	return []string{
		"", " ", "Rosa", "rosA", "rosa ", " rosa", "ro sa", "rosa1", "rosa\n", "rosa\x00", "rosa-", "`", "{", "ro`sa", "ro{sa",
		"r\u00f6sa", "ros\u00e9", "\xff", "rosa\xe9", "\u0430", "abcdefghijklm", strings.Repeat("a", 13), strings.Repeat("a", 1000),
	}
}

// The calls that have no result.

func askedNear(t *testing.T, a, b string, want api.Errno) {
	t.Helper()
	if is, e := right.Near(a, b); e != want || is {
		t.Errorf("Near of %q and %q: %v, %v, not %v", a, b, is, e, want)
	}
}

func askedAdmit(t *testing.T, l []right.Application, want api.Errno) {
	t.Helper()
	if is, e := right.Admit(l); e != want || is != nil {
		t.Errorf("Admit of %v: %v, %v, not %v", l, is, e, want)
	}
}

func askedRights(t *testing.T, l []right.Variety, distance int, want api.Errno) {
	t.Helper()
	if owners, e := right.Rights(l, distance); e != want || owners != nil {
		t.Errorf("Rights of %v for %d: %v, %v, not %v", l, distance, owners, e, want)
	}
}

// askedBook asks for all that is told of licences and uses.
func askedBook(t *testing.T, l []right.Licence, u []right.Use, want api.Errno) {
	t.Helper()
	if shares, n, e := right.Share(l, u); e != want || shares != nil || n != 0 {
		t.Errorf("Share of %v, %v: %v, %d, %v, not %v", l, u, shares, n, e, want)
	}
	if uses, n, e := right.Lack(l, u); e != want || uses != nil || n != 0 {
		t.Errorf("Lack of %v, %v: %v, %d, %v, not %v", l, u, uses, n, e, want)
	}
	for _, n := range []int{0, 1, math.MaxInt} {
		provesShare(t, "refused", l, u, noShares(l, u), n, false)
		provesLack(t, "refused", l, u, nil, -n, false)
	}
}

func askedPapers(t *testing.T, x right.Trip, day int, want api.Errno) {
	t.Helper()
	if papers, price, e := right.Papers(x, day); e != want || papers != nil || price != 0 {
		t.Errorf("Papers of %v on the day %d: %v, %d, %v, not %v", x, day, papers, price, e, want)
	}
}

func askedApart(t *testing.T, x right.Trip, day, kind int, want api.Errno) {
	t.Helper()
	if visits, e := right.Apart(x, day, kind); e != want || visits != nil {
		t.Errorf("Apart of %v on the day %d, for the kind %d: %v, %v, not %v", x, day, kind, visits, e, want)
	}
}

func askedCheapest(t *testing.T, x right.Trip, want api.Errno) {
	t.Helper()
	if day, price, e := right.Cheapest(x); e != want || day != 0 || price != 0 {
		t.Errorf("Cheapest of %v: %d, %d, %v, not %v", x, day, price, e, want)
	}
}

// The calls that have one.

func near(t *testing.T, a, b string, want bool) {
	t.Helper()
	for range 2 {
		if is, e := right.Near(a, b); e != api.OK || is != want {
			t.Errorf("Near of %q and %q: %v, %v, not %v", a, b, is, e, want)
		}
		a, b = b, a
	}
}

func admits(t *testing.T, name string, l []right.Application, want ...bool) {
	t.Helper()
	if is, e := right.Admit(l); e != api.OK || !slices.Equal(is, want) {
		t.Errorf("%s: Admit of %v: %v, %v, not %v", name, l, is, e, want)
	}
}

func belongs(t *testing.T, name string, l []right.Variety, distance int, want ...int) {
	t.Helper()
	if owners, e := right.Rights(l, distance); e != api.OK || !slices.Equal(owners, want) {
		t.Errorf("%s: Rights of %v for %d: %v, %v, not %v", name, l, distance, owners, e, want)
	}
}

func provesShare(t *testing.T, name string, l []right.Licence, u []right.Use, shares [][]int, shortage int, want bool) {
	t.Helper()
	if is := right.ProveShare(l, u, shares, shortage); is != want {
		t.Errorf("%s: ProveShare of %v, %v, the shares %v, and %d: %v", name, l, u, shares, shortage, is)
	}
}

func provesLack(t *testing.T, name string, l []right.Licence, u []right.Use, uses []int, lack int, want bool) {
	t.Helper()
	if is := right.ProveLack(l, u, uses, lack); is != want {
		t.Errorf("%s: ProveLack of %v, %v, the uses %v, and %d: %v", name, l, u, uses, lack, is)
	}
}

// isShort asks for a share-out that leaves so many bulbs, and for uses that lack as
// many.
func isShort(t *testing.T, name string, l []right.Licence, u []right.Use, want int) {
	t.Helper()
	shares, n, e := right.Share(l, u)
	if e != api.OK || n != want || modelLeft(l, u, shares) != want {
		t.Errorf("%s: Share of %v, %v: %v, %d, %v, not %d", name, l, u, shares, n, e, want)
	}
	uses, lack, e := right.Lack(l, u)
	isOne := func(n int) bool { return slices.Contains(uses, n) }
	if e != api.OK || lack != want || !rising(uses) || slices.ContainsFunc(uses, func(n int) bool { return !isUse(u)(n) }) || modelLack(l, u, isOne) != want {
		t.Errorf("%s: Lack of %v, %v: %v, %d, %v, not %d", name, l, u, uses, lack, e, want)
	}
	for _, more := range []int{-1, 0, 1, math.MaxInt - want, math.MinInt} {
		provesShare(t, name, l, u, shares, want+more, more >= 0)
		provesLack(t, name, l, u, uses, want-max(more, -math.MaxInt), more >= 0 && want-more >= 0)
	}
}

func hasPapers(t *testing.T, name string, x right.Trip, day, price int, want ...[]int) {
	t.Helper()
	papers, n, e := right.Papers(x, day)
	if e != api.OK || n != price || !isSame(papers, want) {
		t.Errorf("%s: Papers of %v on the day %d: %v, %d, %v, not %v, %d", name, x, day, papers, n, e, want, price)
	}
	for kind := range papers {
		standsApart(t, name, x, day, kind, len(papers[kind]))
	}
}

// standsApart asks for so many visits.
func standsApart(t *testing.T, name string, x right.Trip, day, kind, want int) {
	t.Helper()
	visits, e := right.Apart(x, day, kind)
	if e != api.OK || len(visits) != want || !rising(visits) || !standApart(x, day, kind, visits) {
		t.Errorf("%s: Apart of %v on the day %d, for the kind %d: %v, %v, not %d", name, x, day, kind, visits, e, want)
	}
}

func isCheapest(t *testing.T, name string, x right.Trip, day, price int) {
	t.Helper()
	if d, n, e := right.Cheapest(x); e != api.OK || d != day || n != price {
		t.Errorf("%s: Cheapest of %v: %d, %d, %v, not %d, %d", name, x, d, n, e, day, price)
	}
}

func isSame(l, other [][]int) bool { return slices.EqualFunc(l, other, slices.Equal) }

// P11.1

func TestNear(t *testing.T) {
	for _, x := range []struct {
		a, b string
		want bool
	}{
		{"admiral", "admirals", true}, {"rosa", "rose", true}, {"rosa", "rosy", true}, {"keizer", "koning", false}, // the examples
		{"rosa", "rosa", true}, {"a", "a", true}, {"a", "b", true}, {"z", "a", true}, // the same, and one letter
		{"a", "aa", true}, {"a", "ab", true}, {"b", "ab", true}, {"c", "ab", false}, {"a", "abc", false}, {"b", "abc", false},
		{"rosa", "bosa", true}, {"rosa", "rasa", true}, {"rosa", "roza", true}, {"rosa", "rosz", true}, // one letter changed
		{"rosa", "bosz", false}, {"rosa", "rasz", false}, {"rosa", "basa", false}, {"rosa", "roxx", false}, {"rosa", "xxxx", false},
		{"rosa", "osa", true}, {"rosa", "rsa", true}, {"rosa", "roa", true}, {"rosa", "ros", true}, // one letter taken out
		{"rosa", "oa", false}, {"rosa", "ro", false}, {"rosa", "sa", false}, {"rosa", "r", false},
		{"rosa", "orosa", true}, {"rosa", "roosa", true}, {"rosa", "rossa", true}, {"rosa", "rosaa", true}, {"rosa", "rosas", true},
		{"rosa", "rosaas", false}, {"rosa", "orosas", false}, {"rosa", "rosarosa", false},
		{"rosa", "osb", false}, {"rosa", "rob", false}, {"rosa", "bsa", false}, {"rosa", "rosbs", false}, {"rosa", "brose", false}, // both
		{"rosa", "orsa", false}, {"rosa", "roas", false}, {"ab", "ba", false}, {"abc", "cab", false}, {"abc", "bca", false}, {"rosa", "osar", false}, // other places
		{"aab", "ab", true}, {"abb", "ab", true}, {"aba", "ab", true}, {"aba", "aa", true}, {"aaa", "aa", true}, {"aaa", "bb", false},
		{"abcdefghijkl", "abcdefghijkl", true}, {"abcdefghijkl", "abcdefghijkx", true}, {"abcdefghijkl", "bbcdefghijkl", true}, {"abcdefghijkl", "bbcdefghijkx", false},
		{"abcdefghijkl", "bcdefghijkl", true}, {"abcdefghijkl", "abcdefghijk", true}, {"abcdefghijkl", "abcdefgijkl", true}, {"abcdefghijkl", "abcdefghij", false}, {"abcdefghijkl", "bcdefghijkx", false},
	} {
		near(t, x.a, x.b, x.want)
	}
	for _, bad := range badNames() {
		for _, other := range append(badNames(), "rosa", "a", "abcdefghijkl", "z") {
			askedNear(t, bad, other, api.ErrName)
			askedNear(t, other, bad, api.ErrName)
		}
	}
}

// app is an application.
func app(name string, day, until int) right.Application {
	return right.Application{Name: name, Day: day, Until: until}
}

func TestAdmit(t *testing.T) {
	list := func(l ...right.Application) []right.Application { return l }
	rosa := app("rosa", 10, 50)
	admits(t, "the example", list(rosa, app("rose", 20, 60), app("rose", 50, 90), app("rosen", 80, 90)), true, false, true, false)
	admits(t, "none", nil)
	admits(t, "one", list(rosa), true)
	admits(t, "all days", list(app("a", 0, api.MaxDate)), true)
	admits(t, "the last day", list(app("a", api.MaxDate-1, api.MaxDate), app("b", 0, 1)), true, true)
	admits(t, "on the last day on which it holds", list(rosa, app("rose", 49, 60)), true, false)
	admits(t, "when it holds no more", list(rosa, app("rose", 50, 60)), true, true)
	admits(t, "the same name", list(rosa, app("rosa", 49, 60), app("rosa", 50, 60)), true, false, true)
	admits(t, "not near", list(rosa, app("koning", 20, 30), app("rsoa", 20, 30)), true, true, true)
	admits(t, "before it", list(rosa, app("rose", 9, 10), app("roses", 9, 11)), true, true, false)
	admits(t, "until it, but later", list(rosa, app("rose", 9, 11)), false, true)
	admits(t, "a refused one refuses none", list(rosa, app("rose", 20, 60), app("roset", 21, 40)), true, false, true)
	admits(t, "what is near of what is near", list(app("aa", 1, 9), app("abb", 2, 9), app("ab", 3, 9)), true, true, false)
	admits(t, "in another order", list(app("rosen", 80, 90), app("rose", 50, 90), app("rose", 20, 60), rosa), false, true, false, true)
	admits(t, "the name again, which holds longer", list(app("rosa", 1, 3), app("rosa", 3, 20), app("rose", 4, 9), app("rose", 19, 20), app("rose", 20, 21)), true, true, false, false, true)
	admits(t, "the name again, which does not hold as long", list(app("rosa", 1, 9), app("rosa", 9, 10), app("rose", 10, 11)), true, true, true)
	admits(t, "one of several holds", list(app("rose", 1, 3), app("rosb", 4, 9), app("rosc", 9, 12), app("rosa", 5, 6), app("rosa", 11, 12)), true, true, true, false, false)
	// On one day the lesser name is first, and of the same name the first one.
	admits(t, "on one day", list(app("rosa", 5, 9), app("posa", 5, 9), app("qosa", 5, 9)), false, true, false)
	admits(t, "on one day, bytes", list(app("b", 5, 9), app("ab", 5, 9), app("abc", 5, 6)), false, true, false)
	admits(t, "the shorter one", list(app("rosaa", 5, 9), app("rosa", 5, 9)), false, true)
	admits(t, "the same one", list(app("b", 5, 7), app("b", 5, 9), app("c", 7, 8)), true, false, true)
	admits(t, "the same one", list(app("b", 5, 9), app("b", 5, 7), app("c", 7, 8)), true, false, false)
	admits(t, "the day ahead of the name", list(app("aa", 6, 9), app("ab", 5, 9)), false, true)
	many := slices.Repeat(list(rosa), api.MaxApplications)
	admits(t, "as many as there can be", many, append([]bool{true}, make([]bool, api.MaxApplications-1)...)...)
}

func TestRefusedApplications(t *testing.T) {
	rosa := app("rosa", 10, 50)
	with := func(l ...right.Application) []right.Application {
		return append([]right.Application{rosa, app("koning", 1, 2)}, l...)
	}
	for _, bad := range badNames() {
		askedAdmit(t, []right.Application{app(bad, 10, 50)}, api.ErrName)
		askedAdmit(t, with(app(bad, 10, 50), rosa), api.ErrName)
		askedAdmit(t, with(app("rosa", 50, 10), app(bad, 10, 50)), api.ErrName) // all names ahead of the days
		askedAdmit(t, with(app(bad, -1, -1)), api.ErrName)
	}
	for _, n := range beyond(0, api.MaxDate) {
		askedAdmit(t, with(app("rosa", n, 50)), api.ErrArg)
		askedAdmit(t, with(app("rosa", 10, n), rosa), api.ErrArg)
	}
	for _, days := range [][2]int{{10, 10}, {11, 10}, {0, 0}, {api.MaxDate, api.MaxDate}, {api.MaxDate, 0}, {-2, -1}, {math.MinInt, math.MaxInt}, {math.MaxInt, math.MinInt}} {
		askedAdmit(t, with(app("rosa", days[0], days[1])), api.ErrArg)
	}
	for _, bad := range []right.Application{rosa, {}, app("", 5, 6), app("rosa", 6, 5)} {
		askedAdmit(t, slices.Repeat([]right.Application{bad}, api.MaxApplications+1), api.ErrLimit)
		askedAdmit(t, append(slices.Repeat([]right.Application{rosa}, 500), bad), api.ErrLimit)
	}
}

// P11.2

// tulips are the varieties of the example.
func tulips() []right.Variety {
	return []right.Variety{
		{Parent: -1, Breeder: 5, Traits: []int{1, 2, 3}},
		{Parent: 0, Breeder: 6, Traits: []int{1, 2, 4}},
		{Parent: 1, Breeder: 7, Traits: []int{9, 9, 4}},
		{Parent: 1, Breeder: 8, Traits: []int{1, 2, 5}},
	}
}

func TestRights(t *testing.T) {
	for distance, want := range [][]int{{5, 6, 7, 8}, {5, 6, 7, 8}, {5, 5, 7, 5}, {5, 5, 5, 5}, {5, 5, 5, 5}, {5, 5, 5, 5}} {
		belongs(t, "the example", tulips(), distance, want...)
	}
	belongs(t, "none", nil, 0)
	belongs(t, "none", nil, api.MaxTraitsOf)
	alike := right.Variety{Parent: 0, Breeder: 99, Traits: []int{7}}
	seed := right.Variety{Parent: -1, Breeder: 0, Traits: []int{7}}
	other := right.Variety{Parent: 0, Breeder: 98, Traits: []int{8}}
	for distance, want := range [][]int{{0, 0, 99, 98}, {0, 0, 0, 98}, {0, 0, 0, 0}} {
		belongs(t, "one trait", []right.Variety{seed, {Parent: -1, Traits: []int{0}}, alike, other}, distance, want...)
	}
	// Those of the parent count, not those of what the parent came from.
	back := []right.Variety{
		{Parent: -1, Breeder: 1, Traits: []int{0, 0, 0, 0, 0}},
		{Parent: 0, Breeder: 2, Traits: []int{0, 0, 0, 99, 99}},
		{Parent: 1, Breeder: 3, Traits: []int{0, 0, 99, 0, 99}},
		{Parent: 2, Breeder: 4, Traits: []int{0, 0, 0, 0, 0}},
		{Parent: 0, Breeder: 5, Traits: []int{9, 9, 9, 9, 9}},
		{Parent: 4, Breeder: 6, Traits: []int{9, 9, 9, 9, 9}},
	}
	for distance, want := range [][]int{{1, 2, 3, 4, 5, 6}, {1, 2, 3, 4, 5, 5}, {1, 2, 3, 4, 5, 5}, {1, 1, 1, 1, 5, 5}, {1, 1, 1, 1, 5, 5}, {1, 1, 1, 1, 5, 5}} {
		belongs(t, "five traits", back, distance, want...)
	}
	chain := slices.Repeat([]right.Variety{alike}, api.MaxVarieties)
	chain[0] = seed
	for n := range chain {
		chain[n].Parent, chain[n].Breeder = n-1, n
	}
	belongs(t, "a long chain", chain, 1, make([]int, api.MaxVarieties)...)
	chain[7].Traits = []int{9} // the one behind it has the trait again
	belongs(t, "a long chain", chain, 1, 0, 0, 0, 0, 0, 0, 0, 7, 8, 8, 8, 8, 8, 8, 8, 8, 8, 8, 8, 8)
	chain[9].Parent = -1
	belongs(t, "a long chain", chain, 1, 0, 0, 0, 0, 0, 0, 0, 7, 8, 9, 9, 9, 9, 9, 9, 9, 9, 9, 9, 9)
	belongs(t, "seedlings alike", []right.Variety{seed, {Parent: -1, Breeder: 3, Traits: []int{7}}}, 5, 0, 3)
}

func TestRefusedVarieties(t *testing.T) {
	bad := []right.Variety{
		{Parent: 4, Traits: []int{1, 2, 3}}, {Parent: 5, Traits: []int{1, 2, 3}}, {Parent: -2, Traits: []int{1, 2, 3}}, {Parent: math.MaxInt, Traits: []int{1, 2, 3}}, {Parent: math.MinInt, Traits: []int{1, 2, 3}},
		{}, {Traits: []int{}}, {Traits: []int{1}}, {Traits: []int{1, 2}}, {Traits: []int{1, 2, 3, 4}}, {Traits: make([]int, api.MaxTraitsOf+1)},
	}
	for _, n := range beyond(0, api.MaxParty) {
		bad = append(bad, right.Variety{Breeder: n, Traits: []int{1, 2, 3}})
	}
	for trait := range 3 {
		for _, n := range beyond(0, 99) {
			traits := []int{1, 2, 3}
			traits[trait] = n
			bad = append(bad, right.Variety{Traits: traits})
		}
	}
	for _, v := range bad {
		for _, distance := range []int{0, 2, 5, -1, 6} {
			askedRights(t, append(tulips(), v), distance, api.ErrArg)
			askedRights(t, append(tulips(), v, tulips()[0]), distance, api.ErrArg)
		}
	}
	for _, v := range []right.Variety{{Parent: 0, Traits: []int{1}}, {Parent: -1}, {Parent: -1, Traits: make([]int, api.MaxTraitsOf+1)}, {Parent: -1, Breeder: 100, Traits: []int{1}}} {
		askedRights(t, []right.Variety{v}, 0, api.ErrArg)
	}
	askedRights(t, slices.Repeat([]right.Variety{{Parent: -1, Traits: make([]int, api.MaxTraitsOf+1)}}, 2), 0, api.ErrArg)
	askedRights(t, slices.Repeat([]right.Variety{{Parent: -1}}, 2), 0, api.ErrArg)
	early := tulips()
	early[1].Parent = 2
	askedRights(t, early, 0, api.ErrArg)
	for _, distance := range beyond(0, api.MaxTraitsOf) {
		askedRights(t, tulips(), distance, api.ErrRange)
		askedRights(t, nil, distance, api.ErrRange)
	}
	for _, v := range []right.Variety{tulips()[0], {}, {Parent: 30}} {
		for _, distance := range []int{0, -1, 6} {
			askedRights(t, slices.Repeat([]right.Variety{v}, api.MaxVarieties+1), distance, api.ErrLimit)
		}
	}
	belongs(t, "as many as there can be", slices.Repeat(tulips()[:1], api.MaxVarieties), 5, slices.Repeat([]int{5}, api.MaxVarieties)...)
}

// P11.3 and P11.4

// noShares has no bulbs on any licence.
func noShares(l []right.Licence, u []right.Use) [][]int {
	var shares [][]int
	for range u {
		shares = append(shares, make([]int, len(l)))
	}
	return shares
}

// until is a licence of the grower 0 for the variety 0.
func until(from, to, bulbs int) right.Licence {
	return right.Licence{From: from, To: to, Bulbs: bulbs}
}

// on is a use by the grower 0, of the variety 0.
func on(day, bulbs int) right.Use { return right.Use{Day: day, Bulbs: bulbs} }

// example are the licences and the uses of the example.
func example() ([]right.Licence, []right.Use) {
	return []right.Licence{until(0, 10, 30), until(5, 20, 40)}, []right.Use{on(3, 20), on(8, 50), on(15, 25)}
}

func TestShare(t *testing.T) {
	l, u := example()
	isShort(t, "the example", l, u, 25)
	if uses, _, _ := right.Lack(l, u); !slices.Equal(uses, []int{0, 1, 2}) {
		t.Errorf("Lack of the example: %v", uses) // no others lack as much
	}
	const most, last = api.MaxLicensed, api.MaxDate
	for _, x := range []struct {
		name string
		l    []right.Licence
		u    []right.Use
		want int
	}{
		{"none", nil, nil, 0},
		{"no uses", l, nil, 0},
		{"no licences", nil, u, 95},
		{"enough", l, u[:2], 0},
		{"one licence", l[:1], u, 65},
		{"the other licence", l[1:], u, 55},
		{"the first day", l[:1], []right.Use{on(0, 30)}, 0},
		{"the last day", l[:1], []right.Use{on(10, 30)}, 0},
		{"behind the last day", l[:1], []right.Use{on(11, 30)}, 30},
		{"before the first day", l[1:], []right.Use{on(4, 30)}, 30},
		{"one day", []right.Licence{until(7, 7, 5)}, []right.Use{on(6, 1), on(7, 6), on(8, 1)}, 3},
		{"another grower", l, []right.Use{{Grower: 1, Day: 8, Bulbs: 10}}, 10},
		{"another variety", l, []right.Use{{Variety: 1, Day: 8, Bulbs: 10}}, 10},
		{"the grower is no variety", []right.Licence{{Grower: 2, Variety: 3, To: 9, Bulbs: 9}}, []right.Use{{Grower: 3, Variety: 2, Bulbs: 4}, {Grower: 2, Variety: 3, Bulbs: 5}}, 4},
		{"nothing used", l, []right.Use{on(99, 0), on(8, 0)}, 0},
		{"nothing licensed", []right.Licence{until(0, 9, 0)}, []right.Use{on(5, 3)}, 3},
		{"a use on all licences", []right.Licence{until(0, 9, 1), until(3, 5, 2), until(5, 7, 4), until(6, 7, 8)}, []right.Use{on(5, 9)}, 2},
		{"two of the same licence", []right.Licence{until(0, 9, 5), until(0, 9, 5)}, []right.Use{on(5, 7), on(5, 2), on(5, 2)}, 1},
		{"all of it", []right.Licence{until(0, last, most)}, []right.Use{on(0, most-1), on(last, 1)}, 0},
		{"much of all", slices.Repeat([]right.Licence{until(0, last, most)}, api.MaxLicences), slices.Repeat([]right.Use{on(9, most)}, api.MaxUses), 0},
		{"most", nil, slices.Repeat([]right.Use{on(9, most)}, api.MaxUses), 12 * most},
		{"nearly most", slices.Repeat([]right.Licence{until(9, 9, 1)}, api.MaxLicences), slices.Repeat([]right.Use{on(9, most)}, api.MaxUses), 12*most - 12},
		// The licence that ends first has to be used first, whichever begins first.
		{"the one that ends first", []right.Licence{until(0, 9, 5), until(0, 4, 5)}, []right.Use{on(3, 5), on(7, 5)}, 0},
		{"the one that ends first", []right.Licence{until(0, 4, 5), until(0, 9, 5)}, []right.Use{on(3, 5), on(7, 5)}, 0},
		{"the one that ends first", []right.Licence{until(0, 9, 5), until(2, 4, 5)}, []right.Use{on(7, 5), on(3, 5)}, 0},
		// The first use has to be first, wherever it stands.
		{"the first use", []right.Licence{until(0, 5, 5), until(4, 9, 5)}, []right.Use{on(5, 5), on(1, 5)}, 0},
		{"the first use", []right.Licence{until(4, 9, 5), until(0, 5, 5)}, []right.Use{on(8, 5), on(5, 3), on(4, 2)}, 0},
		{"some are enough", []right.Licence{until(0, 3, 2), until(2, 6, 9)}, []right.Use{on(1, 5), on(5, 4), on(2, 5)}, 3},
		{"apart", []right.Licence{until(0, 3, 2), until(5, 6, 9)}, []right.Use{on(1, 5), on(5, 14), on(4, 1)}, 9},
	} {
		isShort(t, x.name, x.l, x.u, x.want)
	}
}

func TestProveShare(t *testing.T) {
	l, u := example()
	for _, x := range []struct {
		shares   [][]int
		shortage int
		want     bool
	}{
		{[][]int{{20, 0}, {10, 40}, {0, 0}}, 25, true}, {[][]int{{20, 0}, {10, 15}, {0, 25}}, 25, true}, {[][]int{{20, 0}, {10, 40}, {0, 0}}, 24, false}, {[][]int{{20, 0}, {10, 40}, {0, 0}}, 26, true},
		{[][]int{{0, 0}, {0, 0}, {0, 0}}, 95, true}, {[][]int{{0, 0}, {0, 0}, {0, 0}}, 94, false}, {[][]int{{0, 0}, {0, 0}, {0, 0}}, math.MaxInt, true}, {[][]int{{0, 0}, {0, 0}, {0, 0}}, math.MinInt, false},
		{[][]int{{0, 1}, {0, 0}, {0, 0}}, 95, false}, {[][]int{{0, 0}, {0, 0}, {1, 0}}, 95, false}, // not covered
		{[][]int{{21, 0}, {0, 0}, {0, 0}}, 95, false}, {[][]int{{0, 0}, {0, 0}, {0, 26}}, 95, false}, {[][]int{{0, 0}, {30, 21}, {0, 0}}, 95, false}, {[][]int{{0, 0}, {30, 20}, {0, 0}}, 45, true}, // more than the use
		{[][]int{{0, 0}, {31, 0}, {0, 0}}, 95, false}, {[][]int{{0, 0}, {0, 41}, {0, 0}}, 95, false}, {[][]int{{20, 0}, {11, 0}, {0, 0}}, 95, false}, {[][]int{{0, 0}, {0, 16}, {0, 25}}, 95, false}, {[][]int{{0, 0}, {0, 15}, {0, 25}}, 95, true}, // more than the licence
		{[][]int{{-1, 0}, {0, 0}, {0, 0}}, 99, false}, {[][]int{{20, 0}, {11, -1}, {0, 0}}, 99, false}, {[][]int{{0, 0}, {-1, 41}, {0, 0}}, 99, false}, {[][]int{{0, -1}, {0, 0}, {0, 0}}, 99, false},
		{[][]int{{math.MaxInt, 0}, {math.MaxInt, 0}, {2, 0}}, 95, false}, {[][]int{{0, 0}, {math.MinInt, math.MinInt}, {0, 0}}, 95, false}, {[][]int{{0, 0}, {math.MaxInt, math.MinInt}, {0, 0}}, 95, false}, {[][]int{{math.MaxInt, math.MaxInt}, {2, 0}, {0, 0}}, 95, false},
		{nil, 95, false}, {[][]int{}, 95, false}, {[][]int{{0, 0}}, 95, false}, {[][]int{{0, 0}, {0, 0}}, 95, false}, {[][]int{{0, 0}, {0, 0}, {0, 0}, {0, 0}}, 95, false}, {make([][]int, 3), 95, false},
		{[][]int{{0}, {0}, {0}}, 95, false}, {[][]int{{0, 0}, {0, 0}, {0}}, 95, false}, {[][]int{{0, 0}, nil, {0, 0}}, 95, false}, {[][]int{{0, 0, 0}, {0, 0}, {0, 0}}, 95, false}, {[][]int{{0, 0}, {0, 0}, {0, 0, 0}}, 95, false}, {[][]int{{0, 0, 0}, {0, 0, 0}, {0, 0, 0}}, 95, false},
	} {
		provesShare(t, "the example", l, u, x.shares, x.shortage, x.want)
	}
	for _, shares := range [][][]int{nil, {}} {
		provesShare(t, "no uses", l, nil, shares, 0, true)
		provesShare(t, "no uses", nil, nil, shares, 0, true)
		provesShare(t, "no uses", nil, nil, shares, -1, false)
		provesShare(t, "no uses", l, nil, [][]int{{0, 0}}, 0, false)
		provesShare(t, "no licences", nil, u, shares, 95, false)
	}
	provesShare(t, "no licences", nil, u, [][]int{nil, {}, nil}, 95, true)
	provesShare(t, "no licences", nil, u, [][]int{nil, {}, nil}, 94, false)
	provesShare(t, "no licences", nil, u, [][]int{nil, {0}, nil}, 95, false)
	provesShare(t, "a licence of another one", l, []right.Use{{Grower: 1, Day: 8, Bulbs: 1}}, [][]int{{1, 0}}, 1, false)
	provesShare(t, "nothing used", l, []right.Use{on(99, 0)}, [][]int{{0, 0}}, 0, true)
	provesShare(t, "nothing used", l, []right.Use{on(8, 0)}, [][]int{{1, 0}}, 0, false)
}

func TestProveLack(t *testing.T) {
	l, u := example()
	for _, x := range []struct {
		uses []int
		lack int // the most that is so
	}{
		{[]int{0, 1, 2}, 25}, {[]int{1, 2}, 5}, {[]int{0, 1}, 0}, {[]int{0, 2}, 0}, {[]int{0}, 0}, {[]int{1}, 0}, {[]int{2}, 0}, {nil, 0},
	} {
		for _, n := range []int{x.lack + 1, x.lack, x.lack - 1, 0, -1, math.MinInt, math.MaxInt} {
			provesLack(t, "the example", l, u, x.uses, n, n >= 0 && n <= x.lack)
		}
	}
	for _, uses := range [][]int{{2, 1}, {0, 2, 1}, {1, 1}, {0, 0}, {0, 1, 1, 2}, {3}, {0, 1, 2, 3}, {-1}, {-1, 0, 1, 2}, {math.MaxInt}, {math.MinInt}, {math.MinInt, math.MaxInt}, {math.MaxInt, math.MinInt}} {
		provesLack(t, "no such uses", l, u, uses, 0, false)
	}
	provesLack(t, "no uses", l, nil, nil, 0, true)
	provesLack(t, "no uses", nil, nil, []int{}, 0, true)
	provesLack(t, "no uses", nil, nil, []int{0}, 0, false)
	provesLack(t, "no licences", nil, u, []int{0, 2}, 45, true)
	provesLack(t, "no licences", nil, u, []int{0, 2}, 46, false)
	provesLack(t, "the licences of others", []right.Licence{until(0, 9, 50), until(20, 30, 60)}, []right.Use{on(5, 40), on(10, 20), on(25, 70)}, []int{1, 2}, 30, true)
	provesLack(t, "a licence that covers two", []right.Licence{until(0, 9, 50)}, []right.Use{on(5, 40), on(6, 20)}, []int{0, 1}, 10, true)
	provesLack(t, "a licence that covers two", []right.Licence{until(0, 9, 50)}, []right.Use{on(5, 40), on(6, 20)}, []int{0, 1}, 11, false)
	provesLack(t, "licences that cover one", []right.Licence{until(0, 9, 5), until(3, 9, 5), until(9, 9, 5)}, []right.Use{on(5, 40)}, []int{0}, 30, true)
	provesLack(t, "licences that cover one", []right.Licence{until(0, 9, 5), until(3, 9, 5), until(9, 9, 5)}, []right.Use{on(5, 40)}, []int{0}, 31, false)
}

func TestRefusedBooks(t *testing.T) {
	l, u := example()
	fields := func(x *right.Licence) []*int { return []*int{&x.Grower, &x.Variety, &x.From, &x.To, &x.Bulbs} }
	most := []int{api.MaxParty, api.MaxParty, api.MaxDate, api.MaxDate, api.MaxLicensed}
	var licences []right.Licence
	for n, high := range most {
		for _, number := range beyond(0, high) {
			x := until(0, 10, 30)
			*fields(&x)[n] = number
			licences = append(licences, x)
		}
	}
	licences = append(licences, until(1, 0, 1), until(11, 10, 0), until(api.MaxDate, 0, 1), until(-1, -1, 1), until(math.MaxInt, math.MinInt, 1))
	for _, x := range licences {
		askedBook(t, append(slices.Clone(l), x), u, api.ErrArg)
		askedBook(t, []right.Licence{x, l[0]}, nil, api.ErrArg)
		askedBook(t, slices.Repeat([]right.Licence{x}, api.MaxLicences+1), u, api.ErrLimit)
		askedBook(t, []right.Licence{x}, make([]right.Use, api.MaxUses+1), api.ErrLimit)
	}
	of := func(x *right.Use) []*int { return []*int{&x.Grower, &x.Variety, &x.Day, &x.Bulbs} }
	for n, high := range []int{api.MaxParty, api.MaxParty, api.MaxDate, api.MaxLicensed} {
		for _, number := range beyond(0, high) {
			x := on(8, 10)
			*of(&x)[n] = number
			askedBook(t, l, append(slices.Clone(u), x), api.ErrArg)
			askedBook(t, nil, []right.Use{x, u[0]}, api.ErrArg)
			askedBook(t, l, slices.Repeat([]right.Use{x}, api.MaxUses+1), api.ErrLimit)
			askedBook(t, make([]right.Licence, api.MaxLicences+1), []right.Use{x}, api.ErrLimit)
		}
	}
	askedBook(t, slices.Repeat(l, 7), u, api.ErrLimit)
	askedBook(t, l, slices.Repeat(u, 5), api.ErrLimit)
	askedBook(t, make([]right.Licence, api.MaxLicences+1), nil, api.ErrLimit)
	askedBook(t, nil, make([]right.Use, api.MaxUses+1), api.ErrLimit)
	isShort(t, "the greatest ones", []right.Licence{{99, 99, 0, api.MaxDate, api.MaxLicensed}}, []right.Use{{99, 99, api.MaxDate, api.MaxLicensed}}, 0)
	isShort(t, "as many as there can be", make([]right.Licence, api.MaxLicences), make([]right.Use, api.MaxUses), 0)
}

// P11.5

// travel is the trip of the examples.
func travel() right.Trip {
	return right.Trip{
		First: 9, Last: 12, Prices: []int{8, 7}, Waits: []int{12, 0},
		Visits: []right.Visit{{After: 2, Ages: []int{5, -1}}, {After: 10, Ages: []int{10, 0}}, {After: 20, Ages: []int{15, 30}}},
	}
}

// change is what makes a trip another one.
type change func(x *right.Trip)

func (c change) of(x right.Trip) right.Trip {
	x = cloned(x)
	c(&x)
	return x
}

// cloned is a trip of which all can be changed.
func cloned(x right.Trip) right.Trip {
	x.Prices, x.Waits, x.Visits = slices.Clone(x.Prices), slices.Clone(x.Waits), slices.Clone(x.Visits)
	for n := range x.Visits {
		x.Visits[n].Ages = slices.Clone(x.Visits[n].Ages)
	}
	return x
}

// daily is a trip of one kind of papers, of the price 1, that begins on the day 100;
// for each visit there are the days behind it, and the age.
func daily(visits ...[2]int) right.Trip {
	x := right.Trip{First: 100, Last: 100, Prices: []int{1}, Waits: []int{0}}
	for _, v := range visits {
		x.Visits = append(x.Visits, right.Visit{After: v[0], Ages: []int{v[1]}})
	}
	return x
}

func TestPapers(t *testing.T) {
	hasPapers(t, "the example", travel(), 10, 23, []int{12, 30}, []int{20})
	hasPapers(t, "another day", travel(), 12, 23, []int{14, 32}, []int{22})
	askedPapers(t, travel(), 9, api.ErrFail)
	back := travel()
	slices.Reverse(back.Visits)
	hasPapers(t, "visits in another order", back, 10, 23, []int{12, 30}, []int{20})
	for _, x := range []struct {
		name   string
		visits [][2]int
		want   []int
	}{
		{"no visits", nil, nil},
		{"none asks", [][2]int{{5, -1}, {6, -1}}, nil},
		{"one", [][2]int{{5, 0}}, []int{105}},
		{"at once", [][2]int{{0, 400}}, []int{100}},
		{"late", [][2]int{{400, 400}}, []int{500}},
		{"one serves two", [][2]int{{5, 0}, {8, 3}}, []int{105}},
		{"a day too old", [][2]int{{5, 0}, {8, 2}}, []int{105, 108}},
		{"one serves all", [][2]int{{5, 0}, {8, 3}, {9, 5}, {400, 395}}, []int{105}},
		{"one day", [][2]int{{5, 0}, {5, 3}, {5, 0}, {5, 400}}, []int{105}},
		{"the older one does not serve", [][2]int{{5, 0}, {8, 2}, {9, 3}}, []int{105, 108}},
		{"a visit that does not ask, between", [][2]int{{5, 0}, {6, -1}, {7, 2}}, []int{105}},
		{"a visit that does not ask, ahead", [][2]int{{2, -1}, {6, 4}, {7, 1}}, []int{106}},
		{"each one", [][2]int{{1, 0}, {2, 0}, {3, 0}, {4, 0}, {5, 0}, {6, 0}, {7, 0}, {8, 0}}, []int{101, 102, 103, 104, 105, 106, 107, 108}},
		{"each second one", [][2]int{{1, 0}, {2, 1}, {3, 1}, {4, 1}, {5, 1}, {6, 1}}, []int{101, 103, 105}},
		{"in another order", [][2]int{{8, 2}, {20, 1}, {5, 0}, {9, 3}}, []int{105, 108, 120}},
		{"two on a day, one of which needs another paper", [][2]int{{5, 0}, {8, 9}, {8, 2}, {9, 3}}, []int{105, 108}},
		{"not as late as the age of the first one", [][2]int{{5, 5}, {6, 5}, {7, 1}}, []int{105, 107}},
	} {
		hasPapers(t, x.name, daily(x.visits...), 100, len(x.want), x.want)
	}
	dear := change(func(x *right.Trip) { x.Prices = []int{api.MaxCharge, 0} }).of(travel())
	hasPapers(t, "other prices", dear, 10, 2*api.MaxCharge, []int{12, 30}, []int{20})
	many := right.Trip{Last: api.MaxWindow, Prices: slices.Repeat([]int{api.MaxCharge}, 4), Waits: make([]int, 4)}
	for n := range api.MaxVisits {
		many.Visits = append(many.Visits, right.Visit{After: n, Ages: make([]int, 4)})
	}
	each := []int{60, 61, 62, 63, 64, 65, 66, 67}
	hasPapers(t, "as much as there can be", many, 60, 32*api.MaxCharge, each, each, each, each)
}

// TestWaits has papers that cannot be had from the first day on.
func TestWaits(t *testing.T) {
	waits := func(wait int, visits ...[2]int) right.Trip {
		x := daily(visits...)
		x.Waits[0] = wait
		return x
	}
	can := func(x right.Trip, want ...int) {
		t.Helper()
		hasPapers(t, "waits", x, 100, len(want), want)
	}
	cannot := func(x right.Trip) {
		t.Helper()
		askedPapers(t, x, 100, api.ErrFail)
		askedApart(t, x, 100, 0, api.ErrFail)
		askedCheapest(t, x, api.ErrFail)
	}
	can(waits(105, [2]int{5, 400}), 105)
	cannot(waits(106, [2]int{5, 400}))
	can(waits(106, [2]int{6, 0}, [2]int{7, 1}), 106)
	cannot(waits(107, [2]int{6, 0}, [2]int{7, 1}))
	cannot(waits(107, [2]int{7, 1}, [2]int{6, 0}))
	can(waits(107, [2]int{6, -1}, [2]int{7, 1}), 107)
	can(waits(api.MaxDate))
	can(waits(api.MaxDate, [2]int{400, -1}))
	cannot(waits(api.MaxDate, [2]int{400, 400}))
	// Of several kinds one is enough to hinder the trip; Apart asks for its own one.
	askedPapers(t, travel(), 9, api.ErrFail)
	askedApart(t, travel(), 9, 0, api.ErrFail)
	standsApart(t, "another kind", travel(), 9, 1, 1)
	second := change(func(x *right.Trip) { x.Waits = []int{0, 20} }).of(travel())
	askedPapers(t, second, 9, api.ErrFail)
	askedApart(t, second, 9, 1, api.ErrFail)
	standsApart(t, "another kind", second, 9, 0, 2)
	hasPapers(t, "a day later", second, 10, 23, []int{12, 30}, []int{20})
	// Papers may be issued beyond the last date.
	last := daily([2]int{10, 3})
	last.First, last.Last, last.Waits[0] = api.MaxDate, api.MaxDate, api.MaxDate
	hasPapers(t, "the last date", last, api.MaxDate, 1, []int{api.MaxDate + 10})
}

func TestApart(t *testing.T) {
	isApart := func(name string, x right.Trip, day, kind int, want ...int) {
		t.Helper()
		if visits, e := right.Apart(x, day, kind); e != api.OK || !slices.Equal(visits, want) {
			t.Errorf("%s: Apart of %v on the day %d, for the kind %d: %v, %v, not %v", name, x, day, kind, visits, e, want)
		}
	}
	// The only ones.
	isApart("the example", travel(), 10, 0, 0, 2)
	back := travel()
	slices.Reverse(back.Visits)
	isApart("the example, the other way round", back, 10, 0, 0, 2)
	isApart("none asks", daily([2]int{5, -1}), 100, 0)
	isApart("no visits", daily(), 100, 0)
	isApart("not the first index", daily([2]int{9, -1}, [2]int{20, 2}, [2]int{5, 0}), 100, 0, 1, 2)
	isApart("two on a day", daily([2]int{8, 9}, [2]int{5, 0}, [2]int{8, 2}), 100, 0, 1, 2)
	isApart("all of them", daily([2]int{9, 1}, [2]int{3, 3}, [2]int{5, 1}, [2]int{7, 1}), 100, 0, 0, 1, 2, 3)
}

func TestRefusedDays(t *testing.T) {
	for _, day := range append(beyond(9, 12), 0, 13, 20) {
		askedPapers(t, travel(), day, api.ErrRange)
		for _, kind := range []int{0, 1, 2, -1} {
			askedApart(t, travel(), day, kind, api.ErrRange)
		}
	}
	for _, kind := range beyond(0, 1) {
		for day := 9; day <= 12; day++ {
			askedApart(t, travel(), day, kind, api.ErrRange) // ahead of a kind without enough papers
		}
	}
	never := change(func(x *right.Trip) { x.Waits = []int{50, 50} }).of(travel())
	askedPapers(t, never, 8, api.ErrRange)
	askedPapers(t, never, 9, api.ErrFail)
	askedApart(t, never, 13, 0, api.ErrRange)
	askedApart(t, never, 9, 2, api.ErrRange)
}

// badTrips are trips that no call takes, and why.
func badTrips() map[api.Errno][]change {
	bad := map[api.Errno][]change{api.ErrLimit: {
		func(x *right.Trip) { x.Visits = slices.Repeat(x.Visits, 3) },
		func(x *right.Trip) { x.Visits = make([]right.Visit, api.MaxVisits+1) },
		func(x *right.Trip) { x.Prices = make([]int, api.MaxKindsOf+1) },
		func(x *right.Trip) { x.Prices, x.Waits = slices.Repeat([]int{-1}, 9), nil },
		func(x *right.Trip) { x.Visits, x.First = make([]right.Visit, 100), -1 },
		func(x *right.Trip) { x.Visits, x.Prices = make([]right.Visit, 9), nil },
	}, api.ErrArg: {
		func(x *right.Trip) { *x = right.Trip{} },
		func(x *right.Trip) { x.Prices = nil },
		func(x *right.Trip) { x.Prices, x.Waits, x.Visits = nil, nil, nil },
		func(x *right.Trip) { x.Prices, x.Waits, x.Visits = []int{}, []int{}, []right.Visit{{After: 1}} },
		func(x *right.Trip) { x.First, x.Last = 12, 9 },
		func(x *right.Trip) { x.First, x.Last = 13, 12 },
		func(x *right.Trip) { x.First, x.Last = 0, api.MaxWindow+1 },
		func(x *right.Trip) { x.First, x.Last = 0, api.MaxDate },
		func(x *right.Trip) { x.First, x.Last = api.MaxDate-api.MaxWindow-1, api.MaxDate },
		func(x *right.Trip) { x.First, x.Last = -1, -1 },
		func(x *right.Trip) { x.First, x.Last = api.MaxDate, api.MaxDate+1 },
		func(x *right.Trip) { x.First, x.Last = api.MaxDate+1, api.MaxDate+1 },
		func(x *right.Trip) { x.First, x.Last = math.MinInt, math.MaxInt },
		func(x *right.Trip) { x.First, x.Last = math.MinInt, math.MinInt },
		func(x *right.Trip) { x.First, x.Last = math.MaxInt, math.MinInt },
		func(x *right.Trip) { x.Waits = nil },
		func(x *right.Trip) { x.Waits = x.Waits[:1] },
		func(x *right.Trip) { x.Waits = []int{1, 2, 3} },
		func(x *right.Trip) { x.Waits = make([]int, 50) },
		func(x *right.Trip) { x.Prices = x.Prices[:1] },
		func(x *right.Trip) { x.Prices = []int{1, 2, 3} },
		func(x *right.Trip) { x.Prices, x.Waits = []int{1, 2, 3}, []int{1, 2, 3} },
	}}
	add := func(field func(x *right.Trip) *int, low, high int) {
		for _, n := range beyond(low, high) {
			bad[api.ErrArg] = append(bad[api.ErrArg], func(x *right.Trip) { *field(x) = n })
		}
	}
	add(func(x *right.Trip) *int { return &x.First }, 0, 12)
	add(func(x *right.Trip) *int { return &x.Last }, 9, 9+api.MaxWindow)
	for kind := range 2 {
		add(func(x *right.Trip) *int { return &x.Prices[kind] }, 0, api.MaxCharge)
		add(func(x *right.Trip) *int { return &x.Waits[kind] }, 0, api.MaxDate)
	}
	for visit := range 3 {
		add(func(x *right.Trip) *int { return &x.Visits[visit].After }, 0, api.MaxAfter)
		for kind := range 2 {
			add(func(x *right.Trip) *int { return &x.Visits[visit].Ages[kind] }, -1, api.MaxAfter)
		}
		for _, ages := range [][]int{nil, {}, {5}, {5, 5, 5}} {
			bad[api.ErrArg] = append(bad[api.ErrArg], func(x *right.Trip) { x.Visits[visit].Ages = ages })
		}
	}
	return bad
}

func TestRefusedTrips(t *testing.T) {
	for want, l := range badTrips() {
		for _, c := range l {
			x := c.of(travel())
			askedCheapest(t, x, want)
			for _, day := range []int{10, 9, 8, 13, x.First, x.Last} {
				askedPapers(t, x, day, want)
				for _, kind := range []int{0, 1, 2, -1} {
					askedApart(t, x, day, kind, want)
				}
			}
		}
	}
	for _, c := range []change{
		func(x *right.Trip) { x.First, x.Last = 0, api.MaxWindow },
		func(x *right.Trip) { x.First, x.Last = api.MaxDate-api.MaxWindow, api.MaxDate },
		func(x *right.Trip) { x.First, x.Last = api.MaxDate, api.MaxDate },
		func(x *right.Trip) { x.First, x.Last = 0, 0 },
		func(x *right.Trip) { x.Prices = []int{0, api.MaxCharge} },
		func(x *right.Trip) { x.Waits = []int{0, api.MaxDate} },
		func(x *right.Trip) { x.Visits[0] = right.Visit{After: 0, Ages: []int{-1, -1}} },
		func(x *right.Trip) { x.Visits[2] = right.Visit{After: api.MaxAfter, Ages: []int{api.MaxAfter, 0}} },
		func(x *right.Trip) { x.Visits = slices.Repeat(x.Visits[:1], api.MaxVisits) },
	} {
		x := c.of(travel())
		if _, _, e := right.Cheapest(x); e != api.OK && e != api.ErrFail {
			t.Errorf("Cheapest of %v: %v", x, e)
		}
	}
}

// P11.6

func TestCheapest(t *testing.T) {
	isCheapest(t, "the example", travel(), 10, 23)
	isCheapest(t, "no visits", change(func(x *right.Trip) { x.Visits = nil }).of(travel()), 9, 0)
	isCheapest(t, "for nothing", change(func(x *right.Trip) { x.Prices = []int{0, 0} }).of(travel()), 10, 0)
	isCheapest(t, "at once", change(func(x *right.Trip) { x.Waits = []int{11, 19} }).of(travel()), 9, 23)
	isCheapest(t, "on the last day", change(func(x *right.Trip) { x.Waits = []int{14, 0} }).of(travel()), 12, 23)
	isCheapest(t, "on the last day, for the other kind", change(func(x *right.Trip) { x.Waits = []int{0, 22} }).of(travel()), 12, 23)
	askedCheapest(t, change(func(x *right.Trip) { x.Waits = []int{15, 0} }).of(travel()), api.ErrFail)
	askedCheapest(t, change(func(x *right.Trip) { x.Waits = []int{0, 23} }).of(travel()), api.ErrFail)
	one := change(func(x *right.Trip) { x.First, x.Last = 10, 10 }).of(travel())
	isCheapest(t, "one day", one, 10, 23)
	long := change(func(x *right.Trip) { x.Last, x.Waits[0] = 9+api.MaxWindow, 9+api.MaxWindow+2 }).of(travel())
	isCheapest(t, "the last day of many", long, 9+api.MaxWindow, 23)
	zero := right.Trip{Prices: []int{0}, Waits: []int{0}}
	isCheapest(t, "the day 0, for nothing", zero, 0, 0)
	hasPapers(t, "the day 0, for nothing", zero, 0, 0, nil)
}

// The model.

func TestModelNames(t *testing.T) {
	c := counts{}
	repeat(t, 6000, func(r *rand.Rand, n int) {
		a := randomName(r, between(r, 1, 26), between(r, 1, api.MaxName))
		b := changedName(r, a)
		if n%5 == 0 {
			b = randomName(r, between(r, 1, 3), len(a))
		}
		is := modelNear(a, b)
		near(t, a, b, is)
		c.add("near", is)
		c.add("as long", len(a) == len(b))
		c.add("near and as long", is && len(a) == len(b))
	})
	repeat(t, 2000, func(r *rand.Rand, n int) {
		l := randomApplications(r)
		want := modelAdmit(l)
		admits(t, "the model", l, want...)
		for _, is := range want {
			c.add("admitted", is)
		}
	})
	c.areMany(t, 4, 300)
}

func TestModelRights(t *testing.T) {
	c := counts{}
	repeat(t, 1000, func(r *rand.Rand, n int) {
		l := randomVarieties(r)
		for distance := range api.MaxTraitsOf + 1 {
			want := modelRights(l, distance)
			belongs(t, "the model", l, distance, want...)
			for n, owner := range want {
				c.add("of the breeder", owner == l[n].Breeder)
			}
		}
	})
	c.areMany(t, 1, 300)
}

func TestModelBooks(t *testing.T) {
	c := counts{}
	repeat(t, 1500, func(r *rand.Rand, n int) {
		l, u := randomBook(r, fewBulbs[n%len(fewBulbs)])
		want := modelLeast(l, u)
		isShort(t, "the model", l, u, want)
		c.add("few bulbs are short", want > 0)
	})
	repeat(t, 500, func(r *rand.Rand, n int) {
		l, u := randomBook(r, manyBulbs[n%len(manyBulbs)])
		want := modelShortage(l, u)
		isShort(t, "the model", l, u, want)
		c.add("many bulbs are short", want > 0)
		uses, _, _ := right.Lack(l, u)
		c.add("some of the uses lack", len(uses) > 0 && len(uses) < len(u))
	})
	c.areMany(t, 3, 100)
}

// TestModelProofs has shares and uses of which some are changed.
func TestModelProofs(t *testing.T) {
	c := counts{}
	repeat(t, 6000, func(r *rand.Rand, n int) {
		l, u := randomBook(r, slices.Concat(fewBulbs, manyBulbs)[n%10])
		if len(l) == 0 || len(u) == 0 {
			return
		}
		shares, shortage, _ := right.Share(l, u)
		for range r.Intn(4) {
			i, other := r.Intn(len(l)), r.Intn(len(l))
			use := r.Intn(len(u))
			moved := min(shares[use][i], r.Intn(3))
			shares[use][i] -= moved
			shares[use][other] += moved + r.Intn(8)/7
		}
		left := modelLeft(l, u, shares)
		most := shortage + r.Intn(3)
		c.add("a share-out", left >= 0)
		c.add("left by it", left >= 0 && left <= most)
		provesShare(t, "the model", l, u, shares, most, left >= 0 && left <= most)
		var uses []int
		for n := range u {
			if r.Intn(3) > 0 {
				uses = append(uses, n)
			}
		}
		lack := modelLack(l, u, func(n int) bool { return slices.Contains(uses, n) })
		number := max(-1, lack+r.Intn(5)-2)
		c.add("lacks", number >= 0 && number <= lack)
		provesLack(t, "the model", l, u, uses, number, number >= 0 && number <= lack)
	})
	c.areMany(t, 3, 300)
}

func TestModelTrips(t *testing.T) {
	c := counts{}
	repeat(t, 1200, func(r *rand.Rand, n int) {
		x := randomTrip(r, slices.Concat(shortTours, longTours)[n%8])
		for range 3 {
			day := between(r, x.First, x.Last)
			papers, price, can := modelPrice(x, day)
			c.add("can begin", can)
			if can {
				hasPapers(t, "the model", x, day, price, papers...)
			} else {
				askedPapers(t, x, day, api.ErrFail)
			}
			for kind := range x.Prices {
				l, are := modelPapers(x, day, kind)
				c.add("enough", are)
				c.add("several papers", len(l) > 1)
				if are {
					standsApart(t, "the model", x, day, kind, len(l))
				} else {
					askedApart(t, x, day, kind, api.ErrFail)
				}
			}
		}
		if day, price, can := modelCheapest(x); can {
			isCheapest(t, "the model", x, day, price)
			c.add("cheapest is the first day", day == x.First)
		} else {
			askedCheapest(t, x, api.ErrFail)
		}
	})
	c.areMany(t, 4, 100)
}

// TestFewest looks at all papers, and at all visits, of short trips.
func TestFewest(t *testing.T) {
	repeat(t, 400, func(r *rand.Rand, n int) {
		x := randomTrip(r, shortTours[n%len(shortTours)])
		day := between(r, x.First, x.Last)
		for kind := range x.Prices {
			fewest := modelFewest(x, day, kind)
			if fewest >= never {
				askedApart(t, x, day, kind, api.ErrFail)
				askedPapers(t, x, day, api.ErrFail)
				continue
			}
			standsApart(t, "all visits", x, day, kind, fewest)
			if most := modelMostApart(x, day, kind); most != fewest {
				t.Errorf("%v on the day %d: %d papers of the kind %d, and %d apart", x, day, fewest, kind, most)
			}
		}
	})
}

package right

import (
	"cmp"
	"iter"
	"slices"

	"bybloem/api"
)

// book is licences, and the uses that need them.
type book struct {
	licences []Licence
	uses     []Use
}

func (b book) check() api.Errno {
	return check(b,
		need[book]{func(b book) bool { return len(b.licences) <= api.MaxLicences && len(b.uses) <= api.MaxUses }, api.ErrLimit},
		need[book]{book.isValid, api.ErrArg},
	)
}

func (b book) isValid() bool {
	return every(b.licences, Licence.isValid) && every(b.uses, Use.isValid)
}

func (l Licence) isValid() bool {
	return l.matter().isValid() && isDate(l.From) && isDate(l.To) && l.From <= l.To && areBulbs(l.Bulbs)
}

func (u Use) isValid() bool { return u.matter().isValid() && isDate(u.Day) && areBulbs(u.Bulbs) }

// matter is who uses what.
type matter struct{ grower, variety int }

func (l Licence) matter() matter { return matter{l.Grower, l.Variety} }

func (u Use) matter() matter { return matter{u.Grower, u.Variety} }

func (m matter) isValid() bool { return isParty(m.grower) && isParty(m.variety) }

func (l Licence) covers(u Use) bool {
	return l.matter() == u.matter() && span{l.From, l.To}.has(u.Day)
}

// covering yields the indexes of the licences that cover the use, the one that ends
// first ahead.
func (b book) covering(u Use) iter.Seq[int] {
	return func(yield func(licence int) bool) {
		for _, n := range inOrder(b.licences, Licence.compare) {
			if b.licences[n].covers(u) && !yield(n) {
				return
			}
		}
	}
}

// compare tells which of two licences ends first.
func (l Licence) compare(other Licence) int { return cmp.Compare(l.To, other.To) }

// compare tells which of two uses comes first.
func (u Use) compare(other Use) int { return cmp.Compare(u.Day, other.Day) }

// rest is what is left of each licence.
type rest [api.MaxLicences]int

// full returns the rest of the licences if there are no uses.
func (b book) full() rest {
	var r rest
	for n, l := range b.licences {
		r[n] = l.Bulbs
	}
	return r
}

// without returns the rest when so many bulbs more are on the licence.
func (r rest) without(licence, bulbs int) rest {
	r[licence] -= bulbs
	return r
}

// shared is a book with shares, and what they leave of the licences.
type shared struct {
	book
	shares [][]int
	left   rest
}

// share returns the book with a share-out that leaves just the shortage. The uses
// come in time, and each has of the licence that ends first what is left of it: of
// those that cover the use, this one covers the fewest of the later ones.
func (b book) share() shared {
	s := shared{b, nil, b.full()}
	for range b.uses {
		s.shares = append(s.shares, make([]int, len(b.licences)))
	}
uses:
	for _, n := range inOrder(b.uses, Use.compare) {
		for s.missing(n) > 0 {
			licence, is := s.next(s.uses[n])
			if !is {
				continue uses
			}
			bulbs := min(s.missing(n), s.left[licence])
			s.shares[n][licence] += bulbs
			s.left = s.left.without(licence, bulbs)
		}
	}
	return s
}

// next returns the licence that covers the use, has something left, and ends first.
func (s shared) next(u Use) (licence int, is bool) {
	for n := range s.covering(u) {
		if s.left[n] > 0 {
			return n, true
		}
	}
	return 0, false
}

// missing returns how many bulbs of the use are without a licence.
func (s shared) missing(use int) int { return s.uses[use].Bulbs - sum(s.shares[use]...) }

// shortage returns how many bulbs of all uses are without a licence.
func (s shared) shortage() int {
	total := 0
	for n := range s.uses {
		total += s.missing(n)
	}
	return total
}

// hasShares tells whether it is a share-out.
func (b book) hasShares(shares [][]int) bool {
	hasLicences := func(l []int) bool { return len(l) == len(b.licences) }
	if len(shares) != len(b.uses) || !every(shares, hasLicences) {
		return false
	}
	left := b.full()
	for n, u := range b.uses {
		missing := u.Bulbs
		for licence, bulbs := range shares[n] {
			most := min(missing, left[licence])
			if !b.licences[licence].covers(u) {
				most = 0
			}
			if !upTo(most).has(bulbs) {
				return false
			}
			missing -= bulbs
			left = left.without(licence, bulbs)
		}
	}
	return true
}

// tight returns uses that lack as much as the shortage, of a book with a share-out
// that leaves just this: those that miss bulbs, and those that have the licences
// which these could have, and so on. On all licences of these uses nothing is left,
// and nothing is on them but these uses.
func (s shared) tight() []int {
	var isTight [api.MaxUses]bool
	var add func(use int)
	add = func(use int) {
		if isTight[use] {
			return
		}
		isTight[use] = true
		for licence := range s.covering(s.uses[use]) {
			for n, share := range s.shares {
				if share[licence] > 0 {
					add(n)
				}
			}
		}
	}
	var uses []int
	for n := range s.uses {
		if s.missing(n) > 0 {
			add(n)
		}
	}
	for n, is := range isTight {
		if is {
			uses = append(uses, n)
		}
	}
	return uses
}

// hasUses tells whether it is a rising list of uses.
func (b book) hasUses(uses []int) bool {
	return rises(uses) && every(uses, upTo(len(b.uses)-1).has)
}

// lack returns the lack of the uses.
func (b book) lack(uses []int) int {
	lack := 0
	for _, n := range uses {
		lack += b.uses[n].Bulbs
	}
	for _, l := range b.licences {
		if slices.ContainsFunc(uses, func(n int) bool { return l.covers(b.uses[n]) }) {
			lack -= l.Bulbs
		}
	}
	return max(0, lack)
}

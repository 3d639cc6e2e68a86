package right

import "bybloem/api"

// need is what has to hold for arguments, and their error if it does not.
type need[T any] struct {
	holds func(arguments T) bool
	snag  api.Errno
}

// check returns the error of the first need that does not hold, or OK.
func check[T any](arguments T, needs ...need[T]) api.Errno {
	for _, n := range needs {
		if !n.holds(arguments) {
			return n.snag
		}
	}
	return api.OK
}

// span has all whole numbers from its first to its last one.
type span struct{ first, last int }

func upTo(last int) span { return span{0, last} }

func (s span) has(n int) bool { return s.first <= n && n <= s.last }

func isDate(n int) bool { return upTo(api.MaxDate).has(n) }

func isParty(n int) bool { return upTo(api.MaxParty).has(n) }

func areBulbs(n int) bool { return upTo(api.MaxLicensed).has(n) }

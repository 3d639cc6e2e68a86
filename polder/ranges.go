package polder

import "iter"

func (r Range) has(n int) bool { return r.Lo <= n && n <= r.Hi }

// isUpTo tells whether it is a range with ends from 0 to the most.
func (r Range) isUpTo(most int) bool { return 0 <= r.Lo && r.Lo <= r.Hi && r.Hi <= most }

// all yields all of its numbers.
func (r Range) all() iter.Seq[int] {
	return func(yield func(n int) bool) {
		for n := r.Lo; n <= r.Hi; n++ {
			if !yield(n) {
				return
			}
		}
	}
}

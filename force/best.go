package force

import (
	"cmp"
	"slices"

	"bybloem/api"
)

// blocks returns how many blocks the program has.
func (r run) blocks() int { return len(r.program) }

// isBetter tells whether the program costs less than the other one, or as much
// with fewer blocks, or with as many that are the lesser list.
func (r run) isBetter(other run) bool {
	for _, of := range []func(run) int{run.cost, run.blocks} {
		if c := cmp.Compare(of(r), of(other)); c != 0 {
			return c < 0
		}
	}
	for n, b := range r.program {
		if b != other.program[n] {
			return b.isLess(other.program[n])
		}
	}
	return false
}

func (b Block) isLess(other Block) bool {
	return cmp.Or(cmp.Compare(b.Temp, other.Temp), cmp.Compare(b.Days, other.Days)) < 0
}

// best returns the best program of so many days that is suitable, and whether
// there is one. Two blocks of the same temperature, one behind the other, are not
// looked at: as one block they would be fewer, and else the same.
func (l Lot) best(days int, isSuitable func(program []Block) bool) (best run, found bool) {
	var extend func(program []Block, left int)
	extend = func(program []Block, left int) {
		if left == 0 {
			r := run{l, program}
			if (!found || r.isBetter(best)) && isSuitable(program) {
				best, found = run{l, slices.Clone(program)}, true
			}
			return
		}
		if len(program) == api.MaxBlocks {
			return
		}
		for temp := range l.Prices {
			if n := len(program); n > 0 && program[n-1].Temp == temp {
				continue
			}
			for rest := range left {
				extend(append(program, Block{temp, left - rest}), rest)
			}
		}
	}
	extend(make([]Block, 0, api.MaxBlocks), days)
	return best, found
}

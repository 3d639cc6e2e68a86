package polder

import (
	"slices"

	"bybloem/api"
)

// table returns the costs of the levels from Low to High, day by day.
func (k kept) table() [][]int {
	var table [][]int
	for _, c := range k.days {
		table = append(table, slices.Clone(c[k.Low:k.High+1]))
	}
	return table
}

// proof is what has to hold for each number of a table, on its day and at its level.
type proof struct {
	holds func(k kept, day, level int) bool
}

// isOf tells whether it holds for all numbers of what has to be a table of the
// polder.
func (f proof) isOf(p Polder, table [][]int) bool {
	if CheckPolder(p) != api.OK || !p.hasTable(table) {
		return false
	}
	k := p.with(p.costsOf(table))
	for day := range p.Days {
		for level := range p.levels().all() {
			if !f.holds(k, day, level) {
				return false
			}
		}
	}
	return true
}

// costsOf returns the costs that a table tells.
func (p Polder) costsOf(table [][]int) []costs {
	days := make([]costs, len(table))
	for day, l := range table {
		for n, cost := range l {
			days[day][p.Low+n] = cost
		}
	}
	return days
}

// keeps tells whether the number, if there is one, is enough for some amount.
func (k kept) keeps(day, level int) bool {
	number := k.days[day][level]
	_, least := k.best(day, level)
	return number == never || least != never && least <= number
}

// needs tells whether no amount will do, or each one costs the number at least.
func (k kept) needs(day, level int) bool {
	number := k.days[day][level]
	_, least := k.best(day, level)
	return least == never || number != never && least >= number
}

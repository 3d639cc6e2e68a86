package polder

import "slices"

// play returns the levels after the days, the amounts and what they cost, by the
// best rule.
func (k kept) play(start int, rains []int) (levels, amounts []int, cost int) {
	level := start
	for day, rain := range rains {
		amount, _ := k.best(day, level)
		level += rain - k.Days[day].Seep - amount
		cost += k.Days[day].price(amount)
		levels = append(levels, level)
		amounts = append(amounts, amount)
	}
	return levels, amounts, cost
}

// worstStart returns the level of Start that costs the most.
func (k kept) worstStart() int { return k.Start.Lo + slices.Index(k.starts(), k.cost()) }

// worstRains returns for each day the rain behind which the level costs the most, by
// the best rule.
func (k kept) worstRains(start int) []int {
	var rains []int
	level := start
	for day := range k.Days {
		amount, _ := k.best(day, level)
		m := moved{day, level - amount}
		for rain, next := range k.after(m) {
			if k.days[day+1][next] == k.worst(m) {
				rains = append(rains, rain)
				level = next
				break
			}
		}
	}
	return rains
}

package polder

import (
	"iter"

	"bybloem/api"
)

// never stands for what a level costs that cannot be held, as it does in tables.
const never = -1

// costs is what each level costs on a day; those that are not from Low to High are
// not asked for.
type costs [api.MaxWater + 1]int

// moved is what is left of the water on a day when the amount is moved, and before
// it rains. What may come then depends on nothing else, so that amounts which leave
// the same of several levels are tried only once.
type moved struct{ day, left int }

// kept is a valid polder with the costs of all levels on each day and the one behind
// the last day, and the worst of what was tried by them.
type kept struct {
	Polder
	days  []costs
	tried map[moved]int
}

// with returns the polder with these costs.
func (p Polder) with(days []costs) kept { return kept{p, days, map[moved]int{}} }

// keep returns the polder with the least costs of all levels.
func (p Polder) keep() kept {
	k := p.with(make([]costs, len(p.Days)+1))
	var find func(day int)
	find = func(day int) {
		if day == len(p.Days) {
			return // all levels can be held there, for nothing
		}
		find(day + 1)
		for level := range p.levels().all() {
			_, k.days[day][level] = k.best(day, level)
		}
	}
	find(0)
	return k
}

func (p Polder) levels() Range { return Range{p.Low, p.High} }

func (p Polder) amounts() Range { return Range{-p.Inlet, p.Pump} }

func (p Polder) isKept(level int) bool { return p.levels().has(level) }

// after yields what may rain, with the level after it.
func (p Polder) after(m moved) iter.Seq2[int, int] {
	return func(yield func(rain, level int) bool) {
		d := p.Days[m.day]
		for rain := range d.Rain.all() {
			if !yield(rain, m.left+rain-d.Seep) {
				return
			}
		}
	}
}

func (d Day) price(amount int) int {
	if amount < 0 {
		return -amount * d.In
	}
	return amount * d.Out
}

// best returns the best amount of the level on the day, and what it costs at worst
// by the costs of the next day: never if there is no amount for all rain.
func (k kept) best(day, level int) (amount, cost int) {
	cost = never
	for n := range k.amounts().all() {
		worst := k.worst(moved{day, level - n})
		if worst == never {
			continue
		}
		if sum := worst + k.Days[day].price(n); cost == never || sum < cost {
			amount, cost = n, sum
		}
	}
	return amount, cost
}

// worst returns the greatest cost of the levels that may come on the next day, or
// never if not all of them are kept and can be held.
func (k kept) worst(m moved) int {
	if worst, ok := k.tried[m]; ok {
		return worst
	}
	worst := 0
	isKept := k.isKept
rains:
	for _, level := range k.after(m) {
		switch {
		case !isKept(level):
			worst = never
			break rains
		default:
			worst = greatest(worst, k.days[m.day+1][level])
		}
	}
	k.tried[m] = worst
	return worst
}

// greatest returns the greatest of costs, or never if one of them is.
func greatest(l ...int) int {
	most := 0
	for _, n := range l {
		if n == never {
			return never
		}
		most = max(most, n)
	}
	return most
}

// starts are the costs of the levels of Start.
func (k kept) starts() []int { return k.days[0][k.Start.Lo : k.Start.Hi+1] }

// cost returns the cost of the polder, or never if it cannot be held.
func (k kept) cost() int { return greatest(k.starts()...) }

// held returns for each day the range of the levels that can be held, and whether
// there are any on all days.
func (k kept) held() (ranges []Range, can bool) {
	for day := range k.Days {
		r := Range{k.High + 1, k.Low - 1}
		for level := range k.levels().all() {
			if k.days[day][level] != never {
				r = Range{min(r.Lo, level), max(r.Hi, level)}
			}
		}
		if r.Lo > r.Hi {
			return nil, false
		}
		ranges = append(ranges, r)
	}
	return ranges, true
}

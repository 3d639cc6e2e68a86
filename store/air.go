package store

import "iter"

// followed is a valid store that is followed through one of its truths.
type followed struct {
	Store
	bad   int
	truth Truth
}

// end is the end that is taken of each range.
type end struct {
	of func(r Range) int
}

func lesser() end { return end{Range.lesser} }

func greater() end { return end{Range.greater} }

// at returns the store, followed through the truth with these ends of all
// ranges. Of a unit of gas more at most one more leaves, so that no level is
// less where a number is greater: such truths have the ends of all levels.
func (s Store) at(e end, bad int) followed {
	t := Truth{Start: e.of(s.Start)}
	for range s.Hours {
		var breath []int
		for _, c := range s.Crates {
			breath = append(breath, e.of(c.Breath))
		}
		t.Breath = append(t.Breath, breath)
		t.Gas = append(t.Gas, e.of(s.gasOf(bad)))
	}
	return followed{s, bad, t}
}

func (c Crate) isIn(hour int) bool { return c.From <= hour && hour < c.To }

// hours yields each hour, with what is given off in it.
func (f followed) hours() iter.Seq2[int, int] {
	return func(yield func(hour, given int) bool) {
		for hour, breath := range f.truth.Breath {
			given := 0
			for n, c := range f.Crates {
				if !c.isIn(hour) {
					continue
				}
				given += breath[n]
				if n == f.bad {
					given += f.truth.Gas[hour]
				}
			}
			if !yield(hour, given) {
				return
			}
		}
	}
}

// air returns the level after each hour.
func (f followed) air(doors opened) []int {
	var levels []int
	level := f.truth.Start
	for hour, given := range f.hours() {
		level += given - f.leaving(level, doors[hour])
		levels = append(levels, level)
	}
	return levels
}

// leaving returns how much of a level leaves in an hour.
func (s Store) leaving(level int, isOpen bool) int {
	part := s.Leak
	if isOpen {
		part = s.Open
	}
	return level * part / whole
}

// course is the ranges of the level, hour by hour.
type course []Range

// levels returns the ranges of the level for these doors and somebody that is
// bad.
func (s Store) levels(doors opened, bad int) course {
	var c course
	most := s.at(greater(), bad).air(doors)
	for hour, least := range s.at(lesser(), bad).air(doors) {
		c = append(c, span(least, most[hour]))
	}
	return c
}

// meets tells whether the level can be in the range of the reading.
func (c course) meets(r Reading) bool { return c[r.Hour].common(r.Air) != nothing() }

// who returns those who can be bad, nobody among them, rising.
func (s Store) who() []int {
	who := []int{nobody}
	for n, c := range s.Crates {
		if c.Suspect {
			who = append(who, n)
		}
	}
	return who
}

// left returns those whom none of the readings clears, rising.
func (s Store) left(doors opened, readings []Reading) []int {
	var left []int
	for _, bad := range s.who() {
		if every(readings, s.levels(doors, bad).meets) {
			left = append(left, bad)
		}
	}
	return left
}

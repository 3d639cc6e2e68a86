package ill

import "bybloem/api"

// never is the week in which a plant becomes ill that never does: it is later
// than each week of a row, so that weeks can be compared with it.
const never = api.MaxFlights + 1

// window is the weeks in which a plant can have become ill. It is empty if its
// last week is before its first one.
type window struct{ first, last int }

// anyWeek returns the window of a plant of which nothing is known.
func anyWeek() window { return window{first: 0, last: never} }

// notAtAll returns the window of a plant that never became ill.
func notAtAll() window { return window{first: never, last: never} }

func (w window) has(week int) bool { return within(week, w.first, w.last) }

// and returns the weeks that are in both windows.
func (w window) and(other window) window {
	return window{first: latest(w.first, other.first), last: earliest(w.last, other.last)}
}

// kind tells, from the week of a note, the last one in which a plant can have
// become ill of which it says yes, and the last one in which a plant cannot of
// which it says no.
type kind struct{ yes, no func(week int) int }

// kinds has the kinds of notes by their number.
func (r Row) kinds() [2]kind {
	isSeen := func(week int) int { return week - r.Show }
	isRight := func(week int) int { return week }
	isNotMissed := func(week int) int { return week - r.Old }
	return [2]kind{
		Look: {yes: isSeen, no: isSeen},
		Test: {yes: isRight, no: isNotMissed},
	}
}

// allowed returns the weeks in which the plant of the note can have become ill.
func (r Row) allowed(n Note) window {
	k := r.kinds()[n.Kind]
	if n.Yes {
		return window{first: 0, last: k.yes(n.Week)}
	}
	return window{first: k.no(n.Week) + 1, last: never}
}

// latest returns the latest one of the weeks.
func latest(first int, others ...int) int {
	for _, week := range others {
		first = max(first, week)
	}
	return first
}

// earliest returns the earliest one of the weeks.
func earliest(first int, others ...int) int {
	for _, week := range others {
		first = min(first, week)
	}
	return first
}

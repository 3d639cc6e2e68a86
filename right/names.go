package right

import (
	"cmp"
	"maps"

	"bybloem/api"
)

func isName(s string) bool {
	if !(span{1, api.MaxName}).has(len(s)) {
		return false
	}
	for _, letter := range s {
		if letter < 'a' || letter > 'z' {
			return false
		}
	}
	return true
}

// isNear tells whether two names are near.
func isNear(a, b string) bool {
	if len(a) == len(b) {
		return differing(a, b) <= 1
	}
	return isWithout(a, b) || isWithout(b, a)
}

// differing returns how many letters of two names of one length differ.
func differing(a, b string) int {
	count := 0
	for n := range a {
		if a[n] != b[n] {
			count++
		}
	}
	return count
}

// isWithout tells whether the name becomes the other one by taking a letter out.
func isWithout(name, other string) bool {
	for n := range name {
		if name[:n]+name[n+1:] == other {
			return true
		}
	}
	return false
}

// applications are those that are decided together.
type applications []Application

func (l applications) check() api.Errno {
	return check(l,
		need[applications]{func(l applications) bool { return len(l) <= api.MaxApplications }, api.ErrLimit},
		need[applications]{applications.areNamed, api.ErrName},
		need[applications]{applications.areDated, api.ErrArg},
	)
}

func (l applications) areNamed() bool {
	return every(l, func(a Application) bool { return isName(a.Name) })
}

func (l applications) areDated() bool {
	return every(l, func(a Application) bool { return isDate(a.Day) && isDate(a.Until) && a.Day < a.Until })
}

// compare tells which of two applications is decided first.
func (a Application) compare(other Application) int {
	return cmp.Or(cmp.Compare(a.Day, other.Day), cmp.Compare(a.Name, other.Name))
}

// decide returns for each application whether it is admitted.
func (l applications) decide() []bool {
	admitted := make([]bool, len(l))
	held := map[string]int{} // the names that hold, and until when
	for _, n := range inOrder(l, Application.compare) {
		a := l[n]
		maps.DeleteFunc(held, func(_ string, until int) bool { return until <= a.Day })
		if !a.isNearAny(held) {
			admitted[n] = true
			held[a.Name] = a.Until
		}
	}
	return admitted
}

func (a Application) isNearAny(held map[string]int) bool {
	for name := range held {
		if isNear(a.Name, name) {
			return true
		}
	}
	return false
}

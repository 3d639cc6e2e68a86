package clone

import (
	"cmp"
	"iter"
	"slices"

	"bybloem/api"
)

// kind is what differs from one kind of messages to another.
type kind struct {
	word       string
	from, what bool // which of From and What a line tells
	fits       func(Message) bool
	do         func(*register, Message) bool // does the message, if it can be done, and tells whether it was
}

// kinds has the kinds by their number.
func kinds() [4]kind {
	return [4]kind{
		Seed: {
			word: "seed", what: true,
			fits: func(m Message) bool { return m.From == 0 && within(m.What, 1, api.MaxNumber) },
			do:   (*register).seed,
		},
		Offset: {
			word: "offset", from: true,
			fits: func(m Message) bool { return m.isFromAnother() && m.What == 0 },
			do:   (*register).offset,
		},
		Sport: {
			word: "sport", from: true, what: true,
			fits: func(m Message) bool { return m.isFromAnother() && within(m.What, 1, api.MaxSport) },
			do:   (*register).sport,
		},
		Join: {
			word: "join", from: true,
			fits: func(m Message) bool { return m.isFromAnother() && m.What == 0 },
			do:   (*register).join,
		},
	}
}

// isFromAnother tells whether From is a stock, and not the same one as Stock.
func (m Message) isFromAnother() bool {
	return within(m.From, 1, api.MaxStock) && m.From != m.Stock
}

// isValid tells whether the message is as the chapter describes one.
func (m Message) isValid() bool {
	all := kinds()
	return int(m.Kind) < len(all) &&
		within(m.Number, 1, api.MaxNumber) &&
		within(m.Year, 0, api.MaxYear) &&
		within(m.Stock, 1, api.MaxStock) &&
		all[m.Kind].fits(m)
}

// compareMessages tells which of two messages comes first.
func compareMessages(a, b Message) int {
	return cmp.Or(cmp.Compare(a.Year, b.Year), cmp.Compare(a.Number, b.Number))
}

// contradict tells whether two messages that are not the same have one Number.
func contradict(l []Message) bool {
	byNumber := map[int]Message{}
	for _, m := range l {
		if other, seen := byNumber[m.Number]; seen && other != m {
			return true
		}
		byNumber[m.Number] = m
	}
	return false
}

// gather checks lists of messages, and returns all of these in their order,
// each once, in new memory.
func gather(lists ...[]Message) ([]Message, api.Errno) {
	if len(lists) > api.MaxLists || !every(lists, isShort) {
		return nil, api.ErrLimit
	}
	all := slices.Concat(lists...)
	if !every(all, Message.isValid) {
		return nil, api.ErrArg
	}
	if contradict(all) {
		return nil, api.ErrTwice
	}
	return inOrder(slices.Values(all), compareMessages), api.OK
}

// isShort tells whether a list is within its limit, in which a message counts
// as often as it stands there.
func isShort(l []Message) bool { return len(l) <= api.MaxMessages }

// upTo yields the messages of an ordered list, up to the year.
func upTo(l []Message, year int) iter.Seq[Message] {
	return func(yield func(Message) bool) {
		for _, m := range l {
			if m.Year > year || !yield(m) {
				return
			}
		}
	}
}

// within tells whether n is from lo to hi.
func within(n, lo, hi int) bool { return lo <= n && n <= hi }

// every tells whether a condition holds for all elements.
func every[T any](l []T, holds func(T) bool) bool {
	for _, x := range l {
		if !holds(x) {
			return false
		}
	}
	return true
}

// inOrder returns the elements as a rising list, each once.
func inOrder[T comparable](all iter.Seq[T], compare func(a, b T) int) []T {
	return slices.Compact(slices.SortedFunc(all, compare))
}

// split parts elements by a question that is put about each of them in turn.
func split[T any](all iter.Seq[T], question func(T) bool) (yes, no []T) {
	for x := range all {
		if question(x) {
			yes = append(yes, x)
		} else {
			no = append(no, x)
		}
	}
	return yes, no
}

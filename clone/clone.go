// Package clone is layer 1: the register of a grower's stocks, traced to their
// seedlings by messages that come in any order. See ../shared/doc/01-clone.md.
package clone

import (
	"cmp"
	"slices"

	"bybloem/api"
)

// Message is one message of the register; its Kind says what From and What mean.
type Message struct {
	Number, Year      int
	Kind              uint8
	Stock, From, What int
}

// Clone is a seedling with up to three sports, one behind the other; 0 is none.
type Clone struct{ Seedling, A, B, C int }

// State is what is known of a stock after a year.
type State struct {
	There     bool
	May, Sure []Clone
}

// The kinds of messages.
const (
	Seed   uint8 = 0
	Offset uint8 = 1
	Sport  uint8 = 2
	Join   uint8 = 3
)

// CheckMessages returns the error of the messages, or OK.
func CheckMessages(l []Message) api.Errno {
	_, e := gather(l)
	return e
}

// Gather returns the messages of all lists, in their order, each once.
func Gather(lists [][]Message) ([]Message, api.Errno) {
	l, e := gather(lists...)
	if e != api.OK {
		return nil, e
	}
	if len(l) > api.MaxMessages {
		return nil, api.ErrLimit
	}
	return l, api.OK
}

// Tell returns the state of the stock after the year.
func Tell(l []Message, stock, year int) (State, api.Errno) {
	r, at, e := lookUp(l, stock, year)
	if e != api.OK {
		return State{}, e
	}
	s := r.list[at]
	return State{There: s.there, May: s.may.inOrder(), Sure: s.sure.inOrder()}, api.OK
}

// Orphans returns the Numbers of the messages that are orphans, rising.
func Orphans(l []Message) ([]int, api.Errno) {
	l, e := gather(l)
	if e != api.OK {
		return nil, e
	}
	return numbers(registerAfter(l, api.MaxYear).orphans), api.OK
}

// Rests returns the Numbers of the messages on which the stock rests after the
// year, rising.
func Rests(l []Message, stock, year int) ([]int, api.Errno) {
	r, _, e := lookUp(l, stock, year)
	if e != api.OK {
		return nil, e
	}
	return numbers(restsOf(r.done, stock)), api.OK
}

// Heirs returns the stocks that are there after the year and surely have the
// clone, and those that may have it, both rising.
func Heirs(l []Message, c Clone, year int) (surely, perhaps []int, e api.Errno) {
	l, e = gather(l)
	switch {
	case e != api.OK:
		return nil, nil, e
	case !c.isValid():
		return nil, nil, api.ErrArg
	case !within(year, 0, api.MaxYear):
		return nil, nil, api.ErrRange
	}
	for _, s := range registerAfter(l, year).list {
		if s.there && s.sure[c] {
			surely = append(surely, s.number)
		}
		if s.there && s.may[c] {
			perhaps = append(perhaps, s.number)
		}
	}
	return surely, perhaps, api.OK
}

// Write returns the file of the messages.
func Write(l []Message) ([]byte, api.Errno) {
	l, e := gather(l)
	if e != api.OK {
		return nil, e
	}
	return fileOf(l), api.OK
}

// Read returns the messages of a file, in their order.
func Read(b []byte) (l []Message, e api.Errno) {
	if len(b) > api.MaxRegister {
		return nil, api.ErrLimit
	}
	defer func() {
		if left := recover(); left != nil {
			l, e = nil, whyLeft(left)
		}
	}()
	return readFile(b), api.OK
}

// lookUp returns the register after the year, and the index of the stock in its
// list.
func lookUp(l []Message, stock, year int) (r register, at int, e api.Errno) {
	l, e = gather(l)
	if e != api.OK {
		return register{}, 0, e
	}
	if !within(stock, 1, api.MaxStock) || !within(year, 0, api.MaxYear) {
		return register{}, 0, api.ErrRange
	}
	r = registerAfter(l, year)
	at, was := r.find(stock)
	if !was {
		return register{}, 0, api.ErrNone
	}
	return r, at, api.OK
}

// numbers returns the Numbers of the messages, rising.
func numbers(l []Message) []int {
	var all []int
	for _, m := range l {
		all = append(all, m.Number)
	}
	return inOrder(slices.Values(all), cmp.Compare[int])
}

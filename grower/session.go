package grower

import (
	"slices"
	"strconv"
	"strings"

	"bybloem/api"
)

// session is a session at work: its state, and what became of the lines so far.
// Lists of the state are not changed once they are made, so that a line that is
// refused leaves nothing behind.
type session struct {
	State
	errors []api.Errno
	told   []int // the line of each of the Messages
}

// run does the lines, of which there may be more than a session has.
func run(lines []string) *session {
	var s session
	each(lines, s.enter)
	return &s
}

func each(lines []string, do func(line string)) {
	for _, line := range lines {
		do(line)
	}
}

// enter does the line, if it is accepted, and keeps its error.
func (s *session) enter(line string) {
	e := s.do(line)
	s.errors = append(s.errors, e)
}

// do does the line, or returns the error with which it is refused.
func (s *session) do(line string) (e api.Errno) {
	defer func() {
		switch left := recover().(type) {
		case nil:
			e = api.OK
		case api.Errno:
			e = left
		default: // A call never panics, so that what nothing foresees has no form.
			e = api.ErrForm
		}
	}()
	words := strings.Split(line, " ")
	t, known := tasks()[words[0]]
	need(known && len(words) == 1+t.numbers, api.ErrForm)
	t.do(s, readNumbers(words[1:]))
	return api.OK
}

// greatest is the greatest number that a line may have, and below 0 the least one.
const greatest = 999999999

// readNumbers returns the numbers that the words tell, in new memory.
func readNumbers(words []string) []int {
	var numbers []int
	for _, word := range words {
		n, err := strconv.Atoi(word)
		// A number can be told in several ways, but only one of them is the text of it.
		need(err == nil && strconv.Itoa(n) == word && -greatest <= n && n <= greatest, api.ErrForm)
		numbers = append(numbers, n)
	}
	return numbers
}

// need leaves a line with the error, unless it is so.
func need(isSo bool, e api.Errno) {
	if !isSo {
		panic(e)
	}
}

// pass leaves a line with the error that another layer has for it, if there is one.
func pass(e api.Errno) { need(e == api.OK, e) }

// restOn returns the lines that rest on an accepted one, by the errors of all lines.
func restOn(lines []string, line int, errors []api.Errno) []int {
	without := run(slices.Concat(lines[:line], lines[line+1:])).errors
	rests := func(later int) bool { return errors[later] == api.OK && without[later-1] != api.OK }
	var found []int
	for later := line + 1; later < len(lines); later++ {
		if rests(later) {
			found = append(found, later)
		}
	}
	return found
}

// linesOf returns the lines that told the messages with these Numbers, rising. No
// two of the messages have the same one.
func (s *session) linesOf(numbers []int) []int {
	var lines []int
search:
	for n, m := range s.Messages {
		switch {
		case len(lines) == len(numbers):
			break search
		case slices.Contains(numbers, m.Number):
			lines = append(lines, s.told[n])
		}
	}
	return lines
}

// isIndex tells whether n is the index of an element.
func isIndex[T any](n int, l []T) bool { return 0 <= n && n < len(l) }

// with returns the list with one element more, in new memory.
func with[T any](l []T, x T) []T { return append(slices.Clip(l), x) }

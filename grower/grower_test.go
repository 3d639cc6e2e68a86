package grower_test

import (
	"fmt"
	"math"
	"reflect"
	"slices"
	"strings"
	"testing"

	"bybloem/api"
	"bybloem/clone"
	"bybloem/grower"
	"bybloem/label"
	"bybloem/polder"
	"bybloem/right"
)

// linesOf are the lines of a text, in which a semicolon stands between each two.
func linesOf(text string) []string {
	if text == "" {
		return nil
	}
	return strings.Split(text, "; ")
}

// repeated are so many lines, each with its number, from 1 on, in the place of %d.
func repeated(n int, format string) []string {
	var l []string
	for i := range n {
		l = append(l, strings.ReplaceAll(format, "%d", fmt.Sprint(i+1)))
	}
	return l
}

// dunes are the lines of the chapter's examples.
func dunes() []string {
	return linesOf("seed 1 1900 10 77; offset 2 1903 11 10; sport 3 1905 12 11 4; offset 3 1905 13 11; licence 7 0 10 30; " +
		"use 7 5 20; use 7 6 20; kind 0 0; kind 1 0; part 10; look 0 0 9 1 0 0; sell 0 950; sell 0 900; " +
		"polder 10 20 14 6 2; day 0 8 2 3 1; day 2 6 1 5 1; rain 3; rain 9")
}

// register are lines that come in another order than their messages.
func register() []string {
	return linesOf("sport 3 1905 12 11 4; seed 9 1950 1 5; offset 2 1903 11 10; seed 9 1950 1 6; seed 1 1900 10 77; seed 1 1900 10 77; " +
		"join 4 1906 10 12; rain 1; offset 5 1907 13 10; sport 6 1907 14 13 9; offset 7 1904 15 99")
}

func mustRun(t *testing.T, lines []string) (grower.State, []api.Errno) {
	t.Helper()
	s, errors, e := grower.Run(lines)
	if e != api.OK || len(errors) != len(lines) {
		t.Fatalf("Run of %q: %v, %v, %v", lines, s, errors, e)
	}
	return s, errors
}

// same tells whether states are the same; a nil list and an empty one are.
func same(a, b grower.State) bool { return fmt.Sprint(a) == fmt.Sprint(b) }

// P12.1

func TestRun(t *testing.T) {
	s, errors := mustRun(t, dunes())
	want := make([]api.Errno, 18)
	want[3], want[6], want[11], want[17] = api.ErrTwice, api.ErrDebt, api.ErrName, api.ErrRange
	if !slices.Equal(errors, want) {
		t.Errorf("Run: %v", errors)
	}
	if state := (grower.State{
		Messages: []clone.Message{
			{Number: 1, Year: 1900, Kind: clone.Seed, Stock: 10, What: 77},
			{Number: 2, Year: 1903, Kind: clone.Offset, Stock: 11, From: 10},
			{Number: 3, Year: 1905, Kind: clone.Sport, Stock: 12, From: 11, What: 4},
		},
		Licences: []right.Licence{{Grower: 0, Variety: 7, From: 0, To: 10, Bulbs: 30}},
		Uses:     []right.Use{{Grower: 0, Variety: 7, Day: 5, Bulbs: 20}},
		Lot:      label.Lot{Looks: [][]int{{0, 0}, {1, 0}}},
		Sales:    []grower.Sale{{Kind: 0, Plants: 10}},
		Polder: polder.Polder{
			Low: 10, High: 20, Start: polder.Range{Lo: 13, Hi: 13}, Pump: 6, Inlet: 2,
			Days: []polder.Day{{Rain: polder.Range{Lo: 2, Hi: 6}, Seep: 1, Out: 5, In: 1}},
		},
		Paid: 6,
	}); !same(s, state) {
		t.Errorf("Run: %v, not %v", s, state)
	}
}

// TestStates has what each word makes of the state before.
func TestStates(t *testing.T) {
	message := func(m clone.Message) grower.State { return grower.State{Messages: []clone.Message{m}} }
	water := func(level, paid int, days ...polder.Day) grower.State {
		return grower.State{Paid: paid, Polder: polder.Polder{Low: 3, High: 9, Start: polder.Range{Lo: level, Hi: level}, Pump: 5, Inlet: 4, Days: days}}
	}
	lot := func(parts ...label.Part) grower.State {
		return grower.State{Lot: label.Lot{Looks: [][]int{{3, 0}, {0, 2}}, Parts: parts}}
	}
	sold := func(sales ...grower.Sale) grower.State {
		s := lot()
		s.Sales = sales
		return s
	}
	kinds, levels := "kind 3 0; kind 0 2; ", "polder 3 9 6 5 4; "
	wet, dry := polder.Day{Rain: polder.Range{Lo: 6, Hi: 8}, Seep: 1, Out: 7, In: 9}, polder.Day{Rain: polder.Range{Lo: 0, Hi: 1}, Seep: 7, Out: 11, In: 13}
	for text, want := range map[string]grower.State{
		"":                     {},
		"seed 5 6 7 8":         message(clone.Message{Number: 5, Year: 6, Kind: clone.Seed, Stock: 7, What: 8}),
		"offset 5 6 7 8":       message(clone.Message{Number: 5, Year: 6, Kind: clone.Offset, Stock: 7, From: 8}),
		"sport 5 6 7 8 9":      message(clone.Message{Number: 5, Year: 6, Kind: clone.Sport, Stock: 7, From: 8, What: 9}),
		"join 5 6 7 8":         message(clone.Message{Number: 5, Year: 6, Kind: clone.Join, Stock: 7, From: 8}),
		"licence 4 5 6 7":      {Licences: []right.Licence{{Variety: 4, From: 5, To: 6, Bulbs: 7}}},
		"use 4 5 0; use 4 4 0": {Uses: []right.Use{{Variety: 4, Day: 5}, {Variety: 4, Day: 4}}},
		"licence 4 5 6 7; licence 4 5 6 7; use 4 5 14": {
			Licences: []right.Licence{{Variety: 4, From: 5, To: 6, Bulbs: 7}, {Variety: 4, From: 5, To: 6, Bulbs: 7}},
			Uses:     []right.Use{{Variety: 4, Day: 5, Bulbs: 14}},
		},
		kinds + "rain 1":                                        lot(),
		kinds + "part 7; part 0":                                lot(label.Part{Plants: 7, Seen: [][]int{{}, {}}}, label.Part{Seen: [][]int{{}, {}}}),
		kinds + "part 7; look 0 1":                              lot(label.Part{Plants: 7, Seen: [][]int{{}, {}}}),
		kinds + "part 7; part 6; look 1 0 2 0 0 4":              lot(label.Part{Plants: 7, Seen: [][]int{{}, {}}}, label.Part{Plants: 6, Seen: [][]int{{2, 0, 0, 4}, {}}}),
		kinds + "part 7; part 6; look 0 1 2 0 5 0":              lot(label.Part{Plants: 7, Seen: [][]int{{}, {2, 0, 5, 0}}}, label.Part{Plants: 6, Seen: [][]int{{}, {}}}),
		kinds + "part 7; look 0 1 2 0 5 0; look 0 0 5 0 0 2":    lot(label.Part{Plants: 7, Seen: [][]int{{5, 0, 0, 2}, {2, 0, 5, 0}}}),
		kinds + "part 7; look 0 1 2 0 5 0; look 0 1 3 0 4 0":    lot(label.Part{Plants: 7, Seen: [][]int{{}, {3, 0, 4, 0}}}),                                              // looked at again
		kinds + "part 7; look 0 1 2 0 5 0; look 0 0 4 0 0 3":    lot(label.Part{Plants: 7, Seen: [][]int{{}, {2, 0, 5, 0}}}),                                              // refused
		kinds + "part 7; look 0 1 2 0 5 0; look 0 1 2 1 4 0":    lot(label.Part{Plants: 7, Seen: [][]int{{}, {2, 0, 5, 0}}}),                                              // refused
		kinds + "part 3; part 4; look 1 0 4 0 0 0; sell 1 571":  sold(grower.Sale{Kind: 1, Plants: 7}),                                                                    // all parts are sold
		kinds + "part 0; sell 1 1000; part 0; part 0; sell 0 1": sold(grower.Sale{Kind: 1}, grower.Sale{Kind: 0}),                                                         // what has no plants has each name
		kinds + "part 2; look 0 0 2 0 0 0; sell 1 1; part 2":    {Lot: lot(label.Part{Plants: 2, Seen: [][]int{{}, {}}}).Lot, Sales: []grower.Sale{{Kind: 1, Plants: 2}}}, // nothing is seen of the next lot
		levels: water(6, 0),
		levels + "day 6 8 1 7 9; day 0 1 7 11 13":                 water(6, 0, wet, dry),
		levels + "day 6 8 1 7 9; rain 6":                          water(7, 28),          // 4 are pumped: 3 are too few, if it rains 8
		levels + "day 6 8 1 7 9; day 0 1 7 11 13; rain 8":         water(9, 28, dry),     // of the first day
		levels + "day 6 8 1 7 9; day 0 1 7 11 13; rain 8; rain 1": water(4, 41),          // 1 is let in: it could rain 0
		levels + "day 0 1 7 11 13; day 6 8 1 7 9; rain 1":         water(4, 52, wet),     // 4 are let in, as 3 are too few
		levels + "day 0 1 1 0 0; rain 1":                          water(9, 0),           // of several amounts the least: 3 are let in
		levels + "polder 0 1 0 2 3; polder 3 9 7 5 4":             water(7, 0),           // the last one counts
		levels + "day 6 8 1 7 9; rain 6; polder 3 9 6 5 4":        water(6, 28),          // what was paid is paid
		levels + "day 6 8 1 7 9; rain 9; rain 5; day 0 1 7 11 13": water(6, 0, wet, dry), // it does not rain so much, or so little
		"day 0 0 0 0 0":           {Polder: polder.Polder{Days: make([]polder.Day, 1)}}, // a polder of which all is zero is one
		"day 0 0 0 0 0; rain 0":   {},
		"day 1 1 0 0 0; rain 1":   {Polder: polder.Polder{Days: []polder.Day{{Rain: polder.Range{Lo: 1, Hi: 1}}}}}, // it cannot be held
		"polder 60 60 60 20 20; ": {Polder: polder.Polder{Low: 60, High: 60, Start: polder.Range{Lo: 60, Hi: 60}, Pump: 20, Inlet: 20}},
	} {
		lines := linesOf(strings.TrimSuffix(text, "; "))
		if s, errors := mustRun(t, lines); !same(s, want) {
			t.Errorf("Run of %q: %v, %v, not %v", lines, s, errors, want)
		}
	}
}

// refusal is a line behind others, and its error.
type refusal struct {
	before, line string
	want         api.Errno
}

// refuses does lines behind others; a line that is refused changes nothing.
func refuses(t *testing.T, l []refusal) {
	t.Helper()
	for _, x := range l {
		before := linesOf(x.before)
		state, _ := mustRun(t, before)
		s, errors := mustRun(t, append(before, x.line))
		if e := errors[len(before)]; e != x.want || e != api.OK && !same(s, state) {
			t.Errorf("Run of %q, and %q: %v, not %v; %v, before %v", before, x.line, e, x.want, s, state)
		}
		if slices.Contains(errors[:len(before)], api.ErrForm) {
			t.Errorf("Run of %q: %v", before, errors)
		}
	}
}

// bounds are lines with a number, each way beyond what it may be, and at its ends.
func bounds(before, format string, low, high int, want api.Errno) []refusal {
	var l []refusal
	for n, e := range map[int]api.Errno{low - 1: want, high + 1: want, low: api.OK, high: api.OK, 999999999: want, -999999999: want} {
		l = append(l, refusal{before, fmt.Sprintf(format, n), e})
	}
	return l
}

func TestForm(t *testing.T) {
	words := []string{
		"", " ", "a", "\n", "\x00", "\xff", "rain", "rain ", "rain  1", " rain 1", "rain 1 ", "rain 1\n", "rain 1\r", "rain\t1", "rain\u00a01", "rain1", "rain,1",
		"Rain 1", "RAIN 1", "rains 1", "rai 1", "write 1", "0 1", "1 rain", "rain rain", "rain a", "rain 1 a", "rain 1a", "rain a1", "rain 1.0", "rain 1e3", "rain 0x1", "rain 1_0",
		"rain 01", "rain 00", "rain -0", "rain +1", "rain +0", "rain --1", "rain -01", "rain -", "rain +", "rain \u0661", "rain \u00b9", "rain 1\x00",
		"rain 1000000000", "rain -1000000000", "rain 0999999999", "rain 9999999999", "rain 9223372036854775807", "rain 9223372036854775808", "rain -9223372036854775808",
		"rain 18446744073709551617", "rain 1" + strings.Repeat("0", 190), "rain " + strings.Repeat("0", 195), "rain" + strings.Repeat(" 1", 98), strings.Repeat("a", 200),
		// What is wrong stands behind what is right.
		"seed 1 1900 10 077", "seed 1 1900 10 77 ", "sport 1 1900 10 7 +7", "look 0 0 0 0 0 1000000000", "polder 0 0 0 0 ", "day 0 0 0 0 0x0",
	}
	for word, n := range numbers {
		words = append(words, word+strings.Repeat(" 1", n-1), word+strings.Repeat(" 1", n+1), word+"s"+strings.Repeat(" 1", n), word[1:]+strings.Repeat(" 1", n), strings.ToUpper(word)+strings.Repeat(" 1", n))
	}
	for _, line := range words {
		// It is asked before whatever else is wrong with the line.
		for _, before := range [][]string{nil, dunes(), repeated(49, "seed %d 1 1 1")} {
			state, _ := mustRun(t, before)
			s, errors := mustRun(t, append(before, line))
			if e := errors[len(before)]; e != api.ErrForm || !same(s, state) {
				t.Errorf("Run of %q behind %d lines: %v, %v", line, len(before), e, s)
			}
		}
	}
	for word, n := range numbers {
		for _, number := range []string{" 0", " 7", " -1", " 10", " 999999999", " -999999999"} {
			if _, errors := mustRun(t, []string{word + strings.Repeat(number, n)}); errors[0] == api.ErrForm {
				t.Errorf("Run of %s, and %d times %s: %v", word, n, number, errors)
			}
		}
	}
}

func TestRefusedMessages(t *testing.T) {
	forty := strings.Join(repeated(40, "seed %d 1 1 1"), "; ")
	l := []refusal{
		{"", "sport 1 1 1 2 1", api.OK},
		{"sport 1 1 1 2 1", "sport 1 1 1 2 1", api.ErrTwice},
		{"sport 1 1 1 2 1; seed 2 1 1 1", "sport 1 1 1 2 1", api.ErrTwice},
		{"seed 2 1 1 1; sport 1 1 1 2 1", "sport 1 1 1 2 1", api.ErrTwice},
		{"sport 1 1 1 2 1", "sport 2 1 1 2 1", api.OK},
		{"sport 1 1 1 2 1", "sport 1 2 1 2 1", api.ErrTwice},
		{"sport 1 1 1 2 1", "sport 1 1 3 2 1", api.ErrTwice},
		{"sport 1 1 1 2 1", "sport 1 1 1 3 1", api.ErrTwice},
		{"sport 1 1 1 2 1", "sport 1 1 1 2 2", api.ErrTwice},
		{"offset 1 1 1 2", "join 1 1 1 2", api.ErrTwice},
		{"seed 1 1 1 2", "offset 1 1 1 2", api.ErrTwice},
		// A message that was refused is not there.
		{"sport 1 1 1 2 1; sport 1 1 1 2 2; sport 2 1 1 1 1", "sport 2 1 1 2 1", api.OK},
		// Messages that fit nowhere are none that are refused.
		{"", "join 1 1 1 2", api.OK},
		{"seed 1 1 1 1", "seed 2 1 1 1", api.OK},
		{"offset 1 1 1 2", "offset 2 1 2 1", api.OK},
		// The error that the table asks for first.
		{"seed 1 1 1 1", "seed 1 1 1 0", api.ErrArg},
		{strings.Join(repeated(39, "seed %d 1 1 1"), "; "), "seed 40 1 1 1", api.OK},
		{forty, "seed 41 1 1 1", api.ErrLimit},
		{forty, "seed 41 1 1 0", api.ErrLimit},
		{forty, "seed 40 1 1 2", api.ErrLimit},
		{forty, "seed 40 1 1 1", api.ErrTwice},
		{forty + "; licence 1 1 1 1", "use 1 1 1", api.OK},
	}
	for _, format := range []string{"seed %d 1 1 1", "offset %d 1 1 2", "sport %d 1 1 2 3", "join %d 1 1 2"} {
		l = append(l, bounds("", format, 1, 9999, api.ErrArg)...)
	}
	for _, format := range []string{"seed 1 %d 1 1", "offset 1 %d 1 2", "sport 1 %d 1 2 3", "join 1 %d 1 2"} {
		l = append(l, bounds("", format, 0, 3000, api.ErrArg)...)
	}
	for format, high := range map[string]int{
		"seed 1 1 %d 1": 999, "offset 1 1 %d 5": 999, "sport 1 1 %d 5 1": 999, "join 1 1 %d 5": 999,
		"offset 1 1 5 %d": 999, "sport 1 1 5 %d 1": 999, "join 1 1 5 %d": 999, "seed 1 1 1 %d": 9999, "sport 1 1 1 2 %d": 99,
	} {
		l = append(l, bounds("", format, 1, high, api.ErrArg)...)
	}
	for _, format := range []string{"offset 1 1 %d %d", "sport 1 1 %d %d 1", "join 1 1 %d %d"} {
		l = append(l, refusal{"", strings.ReplaceAll(format, "%d", "7"), api.ErrArg})
	}
	refuses(t, l)
}

func TestRefusedBulbs(t *testing.T) {
	two := "licence 7 0 10 30; licence 7 5 20 40; use 7 8 50"
	l := []refusal{
		{"", "use 7 5 1", api.ErrDebt},
		{"", "use 7 5 0", api.OK},
		{"licence 7 3 8 10", "use 7 3 10", api.OK},
		{"licence 7 3 8 10", "use 7 8 10", api.OK},
		{"licence 7 3 8 10", "use 7 3 11", api.ErrDebt},
		{"licence 7 3 8 10", "use 7 2 1", api.ErrDebt},
		{"licence 7 3 8 10", "use 7 9 1", api.ErrDebt},
		{"licence 7 3 8 10", "use 6 5 1", api.ErrDebt},
		{"licence 7 3 8 10; use 7 5 4; use 7 6 7", "use 7 5 6", api.OK}, // what was refused uses nothing
		{"licence 7 3 8 10; use 7 5 4; use 7 6 6", "use 7 5 1", api.ErrDebt},
		{"licence 7 3 8 10; use 7 5 10", "licence 7 0 1 0", api.OK},
		// Bulbs of an earlier use go on another licence, if there is one.
		{two, "use 7 3 20", api.OK},
		{two, "use 7 3 21", api.ErrDebt},
		{two, "use 7 15 20", api.OK},
		{two, "use 7 15 21", api.ErrDebt},
		{two + "; use 7 3 10; use 7 20 10", "use 7 20 1", api.ErrDebt},
		// The limits, and the error that the table asks for first.
		{strings.Join(repeated(11, "licence %d 0 1 1"), "; "), "licence 1 0 1 1", api.OK},
		{strings.Join(repeated(12, "licence %d 0 1 1"), "; "), "licence 1 0 1 1", api.ErrLimit},
		{strings.Join(repeated(12, "licence %d 0 1 1"), "; "), "licence 1 1 0 1", api.ErrLimit},
		{strings.Join(repeated(12, "licence %d 0 1 1"), "; "), "use 5 1 1", api.OK},
		{strings.Join(repeated(11, "use %d 0 0"), "; "), "use 1 0 0", api.OK},
		{strings.Join(repeated(12, "use %d 0 0"), "; "), "use 1 0 0", api.ErrLimit},
		{strings.Join(repeated(12, "use %d 0 0"), "; "), "use 1 0 1", api.ErrLimit},
		{strings.Join(repeated(12, "use %d 0 0"), "; "), "use 1 -1 1", api.ErrLimit},
		{strings.Join(repeated(12, "use %d 0 0"), "; "), "licence 1 0 0 0", api.OK},
		{"", "licence 7 5 5 1", api.OK},
		{"", "licence 7 6 5 1", api.ErrArg},
		{"", "use 100 0 1", api.ErrArg},
		{"", "use 1 -1 1", api.ErrArg},
	}
	l = append(l, bounds("", "licence %d 0 1 1", 0, 99, api.ErrArg)...)
	l = append(l, bounds("", "licence 1 %d 100000 1", 0, 100000, api.ErrArg)...)
	l = append(l, bounds("", "licence 1 0 %d 1", 0, 100000, api.ErrArg)...)
	l = append(l, bounds("", "licence 1 0 1 %d", 0, 1000000, api.ErrArg)...)
	l = append(l, bounds("", "use %d 0 0", 0, 99, api.ErrArg)...)
	l = append(l, bounds("", "use 1 %d 0", 0, 100000, api.ErrArg)...)
	l = append(l, bounds("licence 1 0 1 1000000", "use 1 0 %d", 0, 1000000, api.ErrArg)...)
	refuses(t, l)
}

func TestRefusedLots(t *testing.T) {
	kinds := "kind 0 0; kind 1 1; kind 0 1"
	parts := kinds + "; part 4; part 5"
	seen := parts + "; look 0 0 3 1 0 0; look 0 1 1 3 0 0" // of the part 0 one is of the kind 0, one of 1, and two of 2
	l := []refusal{
		{kinds, "kind 1 0", api.OK},
		{kinds, "kind 0 1", api.ErrArg},
		{kinds + "; kind 1 0", "kind 2 2", api.OK},
		{kinds + "; kind 1 0; kind 2 2", "kind 3 3", api.ErrArg},
		{parts, "kind 1 0", api.ErrState},
		{parts, "kind 4 4", api.ErrState},
		{"kind 0 0; part 0", "kind 0 1", api.ErrState},
		{"kind 0 0; part 3; sell 0 1000", "kind 0 1", api.OK}, // there is no part any more
		{"", "part 1", api.ErrState},
		{"", "part -1", api.ErrState},
		{parts + "; part 1", "part 1", api.OK},
		{parts + "; part 1; part 1", "part 1", api.ErrLimit},
		{parts + "; part 1; part 1", "part -1", api.ErrLimit},
		{"kind 0 0; part 1; part 1; part 1; part 1; sell 0 1", "part 1", api.OK},
		{"", "look 0 0 0 0 0 0", api.ErrRange},
		{kinds, "look 0 0 0 0 0 0", api.ErrRange},
		{parts, "look 2 0 0 0 0 0", api.ErrRange},
		{parts, "look -1 0 4 0 0 0", api.ErrRange},
		{parts, "look 0 2 4 0 0 0", api.ErrRange},
		{parts, "look 0 -1 4 0 0 0", api.ErrRange},
		{parts, "look 2 0 -1 0 0 0", api.ErrRange},
		{parts, "look 0 0 4 0 0 0", api.OK},
		{parts, "look 1 1 0 5 0 0", api.OK},
		{parts, "look 0 0 5 0 0 0", api.ErrArg},
		{parts, "look 0 0 3 0 0 0", api.ErrArg},
		{parts, "look 0 0 0 0 0 0", api.ErrArg},
		{parts, "look 0 0 5 -1 0 0", api.ErrArg},
		{parts, "look 0 0 999999999 -999999995 0 0", api.ErrArg},
		{parts, "look 0 0 0 0 4 0", api.ErrFail},
		{parts, "look 0 0 3 0 0 1", api.ErrFail},
		{parts, "look 0 1 3 0 0 2", api.ErrArg},
		{parts + "; look 0 0 3 1 0 0", "look 0 1 4 0 0 0", api.ErrFail}, // what is of the look 1 by both is of the kind 1
		{parts + "; look 0 0 3 1 0 0", "look 0 1 3 1 0 0", api.OK},
		{parts + "; look 0 0 3 1 0 0", "look 1 1 5 0 0 0", api.OK}, // of another part
		{seen, "look 0 0 0 4 0 0", api.ErrFail},
		{seen, "look 0 0 2 2 0 0", api.OK},
		{"kind 0 0; part 0", "look 0 0 0 0 0 0", api.OK},
		{"kind 0 0; part 3; sell 0 1", "look 0 0 3 0 0 0", api.ErrRange},
		{"", "sell 0 1", api.ErrState},
		{kinds, "sell 0 1", api.ErrState},
		{kinds, "sell 3 0", api.ErrState},
		{"kind 0 0; part 3; sell 0 1", "sell 0 1", api.ErrState},
		{parts, "sell 3 1", api.ErrRange},
		{parts, "sell -1 1", api.ErrRange},
		{parts, "sell 0 1", api.ErrName},
		{parts, "sell 0 0", api.ErrRange},
		{parts, "sell 0 1001", api.ErrRange},
		{"kind 0 0; part 3", "sell 0 0", api.ErrRange},
		{"kind 0 0; part 3", "sell 0 1001", api.ErrRange},
		{"kind 0 0; part 3", "sell 0 1", api.OK},
		{"kind 0 0; part 3", "sell 0 1000", api.OK},
		{"kind 0 0; part 3", "sell 1 1", api.ErrRange},
		// Seven of 15 are of the kind 1.
		{"kind 0 0; kind 1 0; part 15; look 0 0 8 7 0 0", "sell 1 466", api.OK},
		{"kind 0 0; kind 1 0; part 15; look 0 0 8 7 0 0", "sell 1 467", api.ErrName},
		// Two of 9 are of the kind 2, one is of 0 or of 1, whatever the part 1 has.
		{seen, "sell 2 222", api.OK},
		{seen, "sell 2 223", api.ErrName},
		{seen, "sell 0 111", api.OK},
		{seen, "sell 0 112", api.ErrName},
		{seen, "sell 1 111", api.OK},
		{seen + "; look 1 0 0 5 0 0", "sell 1 666", api.OK},
		{seen + "; look 1 0 0 5 0 0", "sell 1 667", api.ErrName},
		// A name that it perhaps has is none.
		{parts + "; look 0 0 4 0 0 0", "sell 0 1", api.ErrName},
	}
	l = append(l, bounds("", "kind %d 0", 0, 3, api.ErrArg)...)
	l = append(l, bounds("", "kind 0 %d", 0, 3, api.ErrArg)...)
	l = append(l, bounds(kinds, "part %d", 0, 20, api.ErrArg)...)
	l = append(l, bounds("kind 0 0; part 0", "sell 0 %d", 1, 1000, api.ErrRange)...)
	l = append(l, bounds("kind 0 0; part 0; part 0", "look %d 0 0 0 0 0", 0, 1, api.ErrRange)...)
	l = append(l, bounds("kind 0 0; part 0; part 0", "look 0 %d 0 0 0 0", 0, 1, api.ErrRange)...)
	refuses(t, l)
}

func TestRefusedWater(t *testing.T) {
	twelve := strings.Join(repeated(12, "day 0 0 0 0 0"), "; ")
	l := []refusal{
		{"", "polder 5 4 5 0 0", api.ErrArg},
		{"", "polder 5 5 5 0 0", api.OK},
		{"", "polder 3 5 2 0 0", api.ErrArg},
		{"", "polder 3 5 6 0 0", api.ErrArg},
		{"polder 3 5 4 0 0", "polder 0 4 4 0 0", api.OK},
		{"polder 3 5 4 0 0; day 0 0 0 0 0", "polder 0 4 4 0 0", api.ErrState},
		{"polder 3 5 4 0 0; day 0 0 0 0 0", "polder 5 4 5 0 0", api.ErrState},
		{"day 0 0 0 0 0", "polder 3 5 4 0 0", api.ErrState},
		{"polder 3 5 4 0 0; day 0 0 0 0 0; rain 0", "polder 0 4 4 0 0", api.OK},
		{"polder 3 5 4 0 0; day 0 0 0 0 0; day 0 0 0 0 0; rain 0", "polder 0 4 4 0 0", api.ErrState},
		{"", "day 5 4 0 0 0", api.ErrArg},
		{"", "day 5 5 0 0 0", api.OK},
		{"", "day -1 31 0 0 0", api.ErrArg},
		{strings.Join(repeated(11, "day 0 0 0 0 0"), "; "), "day 0 0 0 0 0", api.OK},
		{twelve, "day 0 0 0 0 0", api.ErrLimit},
		{twelve, "day 5 4 0 0 0", api.ErrLimit},
		{twelve + "; rain 0", "day 0 0 0 0 0", api.OK},
		{twelve + "; rain 0", "day 5 4 0 0 0", api.ErrArg},
		{"", "rain 0", api.ErrState},
		{"", "rain -1", api.ErrState},
		{"polder 3 5 4 0 0", "rain 0", api.ErrState},
		{"day 0 0 0 0 0; rain 0", "rain 0", api.ErrState},
		{"day 0 0 0 0 0", "rain 1", api.ErrRange},
		{"day 2 3 0 0 0; day 0 9 0 0 0", "rain 4", api.ErrRange},
		{"day 2 3 0 0 0; day 0 9 0 0 0", "rain 1", api.ErrRange},
		{"polder 0 9 0 0 0; day 2 3 0 0 0; day 0 1 0 0 0", "rain 3", api.OK},
		{"polder 0 9 0 0 0; day 2 3 0 0 0; day 0 1 0 0 0", "rain 2", api.OK},
		{"polder 0 9 0 0 0; day 2 3 0 0 0; day 0 1 0 0 0; rain 2", "rain 2", api.ErrRange},
		// The level cannot be held on this day, or on a later one, though this rain would be no harm.
		{"polder 0 4 2 1 1; day 0 9 0 0 0", "rain 0", api.ErrFail},
		{"polder 0 4 2 1 1; day 0 9 0 0 0", "rain 10", api.ErrRange},
		{"polder 0 4 2 1 1; day 0 0 0 0 0; day 0 9 0 0 0", "rain 0", api.ErrFail},
		{"polder 0 4 4 2 0; day 3 3 0 0 0", "rain 3", api.ErrFail},
		{"polder 0 4 3 2 0; day 3 3 0 0 0", "rain 3", api.OK},
	}
	for format, high := range map[string]int{"polder %d 60 60 0 0": 60, "polder 0 %d 0 0 0": 60, "polder 0 60 %d 0 0": 60, "polder 0 60 0 %d 0": 20, "polder 0 60 0 0 %d": 20,
		"day %d 30 0 0 0": 30, "day 0 %d 0 0 0": 30, "day 0 0 %d 0 0": 30, "day 0 0 0 %d 0": 100, "day 0 0 0 0 %d": 100} {
		l = append(l, bounds("", format, 0, high, api.ErrArg)...)
	}
	refuses(t, l)
}

// P12.2

func TestRests(t *testing.T) {
	for _, x := range []struct {
		lines []string
		line  int
		want  []int
	}{
		{dunes(), 0, nil}, {dunes(), 4, []int{5}}, {dunes(), 5, nil}, {dunes(), 7, []int{10, 12}}, {dunes(), 8, []int{10, 12}},
		{dunes(), 9, []int{10, 12}}, {dunes(), 10, []int{12}}, {dunes(), 12, nil}, {dunes(), 13, []int{16}}, {dunes(), 14, nil}, {dunes(), 16, nil},
		{register(), 0, nil}, {register(), 4, nil}, // a message that fits nowhere is accepted
		{linesOf("day 0 0 0 0 0; rain 0"), 0, []int{1}},
		{linesOf("day 0 0 0 0 0; rain 0"), 1, nil},
		{linesOf("day 0 0 0 0 0; rain 0; polder 0 1 0 0 0; day 0 1 0 0 0; rain 1"), 1, []int{2, 4}},
		// A line that stands ahead does not rest, nor does one that is refused.
		{linesOf("use 7 1 1; use 7 1 0; licence 7 1 1 1; use 7 1 1; use 7 1 1"), 2, []int{3}},
		{linesOf("licence 7 1 1 5; use 7 1 3; licence 7 1 1 5; use 7 1 5"), 0, []int{1}},
		{linesOf("licence 7 1 1 5; use 7 1 3; licence 7 1 1 5; use 7 1 5"), 2, []int{3}},
		// Without the first use a greater one is accepted, and leaves nothing to the third one.
		{linesOf("licence 7 1 1 10; use 7 1 5; use 7 1 10; use 7 1 5"), 1, []int{3}},
		{linesOf("licence 7 1 1 10; use 7 1 5; use 7 1 10; use 7 1 5"), 0, []int{1, 3}},
		// Without the message another one with its number is accepted, and a third one is not.
		{linesOf("seed 1 1 1 1; seed 1 1 1 2; seed 2 1 1 1"), 0, nil},
		{append(repeated(40, "seed %d 1 1 1"), "seed 41 1 1 1", "seed 41 1 1 1"), 0, nil},
		{[]string{"rain 0", "kind 0 0", "a", "part 1", "sell 0 1"}, 1, []int{3, 4}},
	} {
		if l, e := grower.Rests(x.lines, x.line); e != api.OK || !slices.Equal(l, x.want) {
			t.Errorf("Rests of %q, %d: %v, %v, not %v", x.lines, x.line, l, e, x.want)
		}
	}
}

func TestRefusedRests(t *testing.T) {
	for _, x := range []struct {
		lines []string
		line  int
		want  api.Errno
	}{
		{dunes(), 3, api.ErrState}, {dunes(), 6, api.ErrState}, {dunes(), 11, api.ErrState}, {dunes(), 17, api.ErrState},
		{dunes(), 18, api.ErrRange}, {dunes(), -1, api.ErrRange}, {dunes(), math.MaxInt, api.ErrRange}, {dunes(), math.MinInt, api.ErrRange},
		{nil, 0, api.ErrRange}, {[]string{}, -1, api.ErrRange}, {[]string{""}, 0, api.ErrState}, {[]string{""}, 1, api.ErrRange},
		{[]string{"seed 1 1 1 1", "seed 1 1 1 1"}, 1, api.ErrState},
		{make([]string, api.MaxSession), api.MaxSession, api.ErrRange},
	} {
		if l, e := grower.Rests(x.lines, x.line); e != x.want || l != nil {
			t.Errorf("Rests of %q, %d: %v, %v, not %v", x.lines, x.line, l, e, x.want)
		}
	}
}

// P12.3

func TestTrace(t *testing.T) {
	for _, x := range []struct {
		lines       []string
		stock, year int
		want        []int
		e           api.Errno
	}{
		{dunes(), 12, 1910, []int{0, 1, 2}, api.OK},
		{dunes(), 12, 1905, []int{0, 1, 2}, api.OK},
		{dunes(), 12, 1904, nil, api.ErrNone},
		{dunes(), 13, 3000, nil, api.ErrNone}, // its message was refused
		{register(), 12, 1905, []int{0, 2, 4}, api.OK},
		{register(), 10, 1905, []int{4}, api.OK},
		{register(), 10, 1906, []int{0, 2, 4, 6}, api.OK},
		{register(), 14, 3000, []int{0, 2, 4, 6, 8, 9}, api.OK},
		{register(), 1, 3000, []int{1}, api.OK}, // by the line that was accepted
		{register(), 1, 1949, nil, api.ErrNone},
		{register(), 15, 3000, nil, api.ErrNone}, // its message fits nowhere
		{register(), 16, 3000, nil, api.ErrNone},
		{[]string{"seed 1 0 999 1"}, 999, 0, []int{0}, api.OK},
		{[]string{"seed 1 0 1 1", "join 2 0 1 2"}, 1, 0, []int{0}, api.OK},
		{nil, 1, 0, nil, api.ErrNone},
		{nil, 0, 0, nil, api.ErrRange}, {nil, 1000, 0, nil, api.ErrRange}, {nil, 1, -1, nil, api.ErrRange}, {nil, 1, 3001, nil, api.ErrRange},
		{dunes(), math.MaxInt, 1910, nil, api.ErrRange}, {dunes(), math.MinInt, 1910, nil, api.ErrRange}, {dunes(), 12, math.MaxInt, nil, api.ErrRange}, {dunes(), 12, math.MinInt, nil, api.ErrRange},
	} {
		if l, e := grower.Trace(x.lines, x.stock, x.year); e != x.e || !slices.Equal(l, x.want) || e != api.OK && l != nil {
			t.Errorf("Trace of %q, %d after %d: %v, %v, not %v", x.lines, x.stock, x.year, l, e, x.want)
		}
	}
}

// P12.4

func TestReport(t *testing.T) {
	stocks := "stock 10 clones 1 sure 1; stock 11 clones 1 sure 1; stock 12 clones 1 sure 1; "
	kinds := "kind 0 0; kind 1 0; kind 0 1; "
	for _, x := range []struct{ lines, want string }{
		{"", "orphans 0; left 0; sold 0; water 0 days 0 paid 0"},
		{"a", "orphans 0; left 0; sold 0; water 0 days 0 paid 0"},
		{strings.Join(dunes(), "; "), stocks + "orphans 0; left 10; kind 0 0..0; kind 1 0..0; sold 10; water 13 days 1 paid 6; cost 0"},
		{strings.Join(dunes()[:11], "; "), stocks + "orphans 0; left 10; kind 0 9..9; kind 1 1..1; sold 0; water 0 days 0 paid 0"},
		{strings.Join(register(), "; "), "stock 1 clones 1 sure 1; stock 10 clones 2 sure 2; stock 11 clones 1 sure 1; stock 13 clones 2 sure 0; stock 14 clones 2 sure 0; orphans 1; left 0; sold 0; water 0 days 0 paid 0"},
		{"seed 1 3000 999 1; seed 2 3000 2 1; offset 3 2999 3 2; join 4 0 5 6", "stock 2 clones 1 sure 1; stock 999 clones 1 sure 1; orphans 2; left 0; sold 0; water 0 days 0 paid 0"},
		{"licence 1 0 1 10; licence 2 0 1 5; use 1 1 3; use 2 0 5; use 2 0 1; licence 3 1 1 1000000", "orphans 0; left 1000007; sold 0; water 0 days 0 paid 0"},
		{kinds, "orphans 0; left 0; kind 0 0..0; kind 1 0..0; kind 2 0..0; sold 0; water 0 days 0 paid 0"},
		{kinds + "part 10; look 0 0 8 2 0 0; part 5; look 1 1 4 1 0 0", "orphans 0; left 0; kind 0 0..12; kind 1 2..6; kind 2 1..9; sold 0; water 0 days 0 paid 0"},
		{kinds + "part 10; look 0 0 8 2 0 0; part 5; look 1 1 4 1 0 0; look 0 1 9 1 0 0", "orphans 0; left 0; kind 0 7..11; kind 1 2..6; kind 2 2..2; sold 0; water 0 days 0 paid 0"},
		{"kind 0 0; part 3; part 4; sell 0 1; part 20; sell 0 1000; part 1", "orphans 0; left 0; kind 0 1..1; sold 27; water 0 days 0 paid 0"},
		{"polder 10 20 14 6 2; day 0 8 2 3 1; day 2 6 1 5 1; day 0 4 4 1 4", "orphans 0; left 0; sold 0; water 14 days 3 paid 0; cost 21"},
		{"polder 10 20 16 6 2; day 0 8 2 3 1; day 2 6 1 5 1; day 0 4 4 1 4; rain 0; rain 6", "orphans 0; left 0; sold 0; water 17 days 1 paid 14; cost 0"},
		{"polder 10 20 16 6 2; day 0 8 2 3 1; rain 0", "orphans 0; left 0; sold 0; water 12 days 0 paid 6"}, // without days there is no cost
		{"polder 0 4 2 1 1; day 0 9 0 0 0", "orphans 0; left 0; sold 0; water 2 days 1 paid 0"},             // it cannot be held
		{"day 5 5 0 0 0", "orphans 0; left 0; sold 0; water 0 days 1 paid 0"},
		{"day 0 0 0 5 5", "orphans 0; left 0; sold 0; water 0 days 1 paid 0; cost 0"},
	} {
		want := strings.ReplaceAll(x.want, "; ", "\n") + "\n"
		if text, e := grower.Report(linesOf(strings.TrimSuffix(x.lines, "; "))); e != api.OK || text != want {
			t.Errorf("Report of %q: %q, %v, not %q", x.lines, text, e, want)
		}
	}
}

// P12.5

func TestWrite(t *testing.T) {
	for _, x := range []struct {
		lines []string
		want  string
	}{
		{nil, ""}, {[]string{}, ""},
		{[]string{"a"}, "<00019998000201>a\n"},
		{[]string{"", "a"}, "<00009999000003>\n<00019998000232>a\n"},
		{[]string{"a", ""}, "<00019998000201>a\n<00009999000004>\n"},
		{[]string{"ab"}, "<00029997006340>ab\n"},                                       // 31 by 201, and 98 and 11
		{[]string{"\n", "\xff\x00"}, "<00019998000114>\n\n<00029997012101>\xff\x00\n"}, // 3*31+10+11; (4*31+255+11)*31+11
		{[]string{"<00019998000201>a\n"}, modelRecord(0, "<00019998000201>a\n")},
		{dunes(), modelFile(dunes())},
		{slices.Repeat([]string{strings.Repeat("\xff", 200)}, 50), modelFile(slices.Repeat([]string{strings.Repeat("\xff", 200)}, 50))},
	} {
		b, e := grower.Write(x.lines)
		if e != api.OK || string(b) != x.want {
			t.Errorf("Write of %q: %q, %v, not %q", x.lines, b, e, x.want)
		}
		if l, read := grower.Recover(b); !slices.Equal(l, x.lines) || read != len(b) {
			t.Errorf("Recover of %q: %q, %d", b, l, read)
		}
	}
}

func TestRecover(t *testing.T) {
	one := "<00019998000201>a\n"
	long := modelFile([]string{strings.Repeat("b", 200)})
	for _, x := range []struct {
		b     string
		lines []string
		read  int
	}{
		{"", nil, 0}, {one, []string{"a"}, 18}, {one + "<", []string{"a"}, 18}, {one + "a", []string{"a"}, 18}, {one + one, []string{"a"}, 18},
		{one + "<00009999000004>\n" + "<00019998000263>a\n", []string{"a", "", "a"}, 53},
		{one[1:], nil, 0}, {"\n" + one, nil, 0}, {" " + one, nil, 0}, {one[:17], nil, 0}, {one[:16], nil, 0}, {one[:1], nil, 0}, {one[:5], nil, 0},
		{"(00019998000201>a\n", nil, 0}, {"<00019998000201)a\n", nil, 0}, {"<00019998000201>a ", nil, 0}, {"<00019998000201>a\r\n", nil, 0},
		{"<00019999000201>a\n", nil, 0}, {"<00019997000201>a\n", nil, 0}, {"<00010001000201>a\n", nil, 0}, {"<00018998000201>a\n", nil, 0},
		{"<00019998000202>a\n", nil, 0}, {"<00019998000201>b\n", nil, 0}, {"<00019998000232>a\n", nil, 0}, {"<00019998010201>a\n", nil, 0},
		{"<00009999000201>a\n", nil, 0}, {"<00029997000201>a\n", nil, 0}, {"<00029997000201>a\n\n", nil, 0}, {"<00109989000201>a\n", nil, 0},
		{"<000a9998000201>a\n", nil, 0}, {"<+0019998000201>a\n", nil, 0}, {"<-0019998000201>a\n", nil, 0}, {"<-1009998000201>a\n", nil, 0}, {"<   19998000201>a\n", nil, 0}, {"<0x019998000201>a\n", nil, 0},
		{"<00009999000003>\n", []string{""}, 17},
		{"<00009999000004>\n", nil, 0}, // the record 1 is not the first one
		{strings.Repeat("<00009999000003>\n", 2), []string{""}, 17},
		{long, []string{strings.Repeat("b", 200)}, 217},
		{long[:216], nil, 0},
		{modelFile([]string{strings.Repeat("b", 201)}), nil, 0}, // that is no line any more
		{modelFile([]string{"", strings.Repeat("b", 201), ""}), []string{""}, 17},
		{modelFile([]string{strings.Repeat("b", 9999)}), nil, 0},
		{modelFile(make([]string, 50)), make([]string, 50), 850},
		{modelFile(make([]string, 51)), make([]string, 50), 850}, // more than a session has
		{modelFile(make([]string, 70)), make([]string, 50), 850},
	} {
		if l, read := grower.Recover([]byte(x.b)); !slices.Equal(l, x.lines) || read != x.read {
			t.Errorf("Recover of %q: %q, %d, not %q, %d", x.b, l, read, x.lines, x.read)
		}
	}
	if l, read := grower.Recover(nil); len(l) != 0 || read != 0 {
		t.Errorf("Recover of nothing: %q, %d", l, read)
	}
}

// P12.6

func TestResume(t *testing.T) {
	all := modelRun(dunes()).accepted(dunes())
	for _, x := range []struct {
		read       []string
		rest       string
		more, want []string
	}{
		{nil, "", nil, nil},
		{nil, "", dunes(), all},
		{all, "", nil, all},
		{all, "", []string{"seed 1 1900 10 77", "kind 0 0", "use 7 5 11", "sell 0 1", "a"}, all},
		{all[:5], "", all[5:], all},
		{all[:5], "<0012", all[5:], all},
		{all[:5], modelRecord(6, all[5]), all[5:], all}, // a record in another's place is none
		{all[:len(all)-1], "", []string{"rain 9", "rain 3", "sell 0 1"}, all},
		// Lines that can be read are kept, also those that are refused.
		{[]string{"a", "seed 1 1 1 1", "seed 1 1 1 1"}, "", []string{"a", "seed 1 1 1 1", "seed 2 1 1 1"}, []string{"a", "seed 1 1 1 1", "seed 1 1 1 1", "seed 2 1 1 1"}},
		{[]string{"use 7 1 1", "licence 7 1 1 1"}, "", []string{"use 7 1 1", "use 7 1 1"}, []string{"use 7 1 1", "licence 7 1 1 1", "use 7 1 1"}},
		{make([]string, 50), "", nil, make([]string, 50)},
		{make([]string, 50), "", []string{"a", "use 1 1 1"}, make([]string, 50)},
		{make([]string, 49), "", []string{"a", "use 1 1 0"}, append(make([]string, 49), "use 1 1 0")},
		{make([]string, 51), "", make([]string, 50), make([]string, 50)}, // the last one of them cannot be read
		{nil, "", repeated(50, "part %d"), nil},
		{[]string{"kind 0 0"}, "", slices.Repeat([]string{"part 1", "sell 0 1"}, 24), append([]string{"kind 0 0"}, slices.Repeat([]string{"part 1", "sell 0 1"}, 24)...)},
	} {
		b := []byte(modelFile(x.read) + x.rest)
		if file, e := grower.Resume(b, x.more); e != api.OK || string(file) != modelFile(x.want) {
			t.Errorf("Resume of %q, %q: %q, %v, not %q", b, x.more, file, e, x.want)
		}
	}
}

func TestRefusedResume(t *testing.T) {
	for _, x := range []struct {
		read, more []string
		want       api.Errno
	}{
		{make([]string, 50), []string{"use 1 1 0"}, api.ErrLimit},
		{make([]string, 51), []string{"use 1 1 0"}, api.ErrLimit},
		{make([]string, 11), repeated(40, "seed %d 1 1 1"), api.ErrLimit},
		{make([]string, 10), repeated(40, "seed %d 1 1 1"), api.OK},
		{make([]string, 10), repeated(41, "seed %d 1 1 1"), api.OK}, // one of them is refused
		{nil, make([]string, 51), api.ErrLimit},
		{nil, []string{strings.Repeat("a", 201)}, api.ErrLimit},
		{nil, []string{strings.Repeat("a", 200)}, api.OK},
		{nil, make([]string, 50), api.OK},
	} {
		b := []byte(modelFile(x.read))
		if file, e := grower.Resume(b, x.more); e != x.want || e != api.OK && file != nil {
			t.Errorf("Resume of %q, %q: %q, %v, not %v", x.read, x.more, file, e, x.want)
		}
	}
}

// TestLimits has lists of lines that no call takes, or that each takes.
func TestLimits(t *testing.T) {
	long := strings.Repeat("a", 201)
	for _, x := range []struct {
		lines []string
		want  api.Errno
	}{
		{make([]string, 50), api.OK}, {make([]string, 51), api.ErrLimit}, {make([]string, 1000), api.ErrLimit},
		{[]string{long[:200]}, api.OK}, {[]string{long}, api.ErrLimit}, {append(dunes(), long), api.ErrLimit}, {append([]string{long}, dunes()...), api.ErrLimit},
		{[]string{"seed 1 1 1 1", "rain " + strings.Repeat("0", 195)}, api.OK}, {[]string{"seed 1 1 1 1", "rain " + strings.Repeat("0", 196)}, api.ErrLimit},
		{[]string{"seed 1 1 1 1", strings.Repeat("\u00e9", 100)}, api.OK}, {[]string{"seed 1 1 1 1", strings.Repeat("\u00e9", 100) + "a"}, api.ErrLimit}, // bytes count
		{append(make([]string, 50), long), api.ErrLimit},
	} {
		s, errors, e := grower.Run(x.lines)
		if e != x.want || e != api.OK && (!reflect.ValueOf(s).IsZero() || errors != nil) {
			t.Errorf("Run of %d lines: %v, %v, %v", len(x.lines), s, errors, e)
		}
		if text, e := grower.Report(x.lines); e != x.want || (e != api.OK) != (text == "") {
			t.Errorf("Report of %d lines: %q, %v", len(x.lines), text, e)
		}
		if b, e := grower.Write(x.lines); e != x.want || e != api.OK && b != nil {
			t.Errorf("Write of %d lines: %q, %v", len(x.lines), b, e)
		}
		// The lines are asked about first.
		later := map[api.Errno]api.Errno{api.OK: api.ErrRange, api.ErrLimit: api.ErrLimit}[x.want]
		for _, line := range []int{-1, len(x.lines), 1000} {
			if l, e := grower.Rests(x.lines, line); e != later || l != nil {
				t.Errorf("Rests of %d lines, %d: %v, %v", len(x.lines), line, l, e)
			}
			if l, e := grower.Trace(x.lines, -1, line); e != later || l != nil {
				t.Errorf("Trace of %d lines, %d: %v, %v", len(x.lines), line, l, e)
			}
		}
	}
}

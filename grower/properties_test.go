package grower_test

import (
	"bytes"
	"fmt"
	"math/rand"
	"slices"
	"strings"
	"testing"

	"bybloem/api"
	"bybloem/clone"
	"bybloem/grower"
	"bybloem/label"
	"bybloem/polder"
	"bybloem/right"
)

func mustWrite(t *testing.T, lines []string) []byte {
	t.Helper()
	b, e := grower.Write(lines)
	if e != api.OK {
		t.Fatalf("Write of %q: %v", lines, e)
	}
	return b
}

func mustReport(t *testing.T, lines []string) string {
	t.Helper()
	text, e := grower.Report(lines)
	if e != api.OK {
		t.Fatalf("Report of %q: %v", lines, e)
	}
	return text
}

func mustRest(t *testing.T, lines []string, line int) []int {
	t.Helper()
	l, e := grower.Rests(lines, line)
	if e != api.OK {
		t.Fatalf("Rests of %q, %d: %v", lines, line, e)
	}
	return l
}

// without is the list without an element.
func without[T any](l []T, n int) []T { return slices.Concat(l[:n], l[n+1:]) }

// before is the state before the line.
func before(t *testing.T, lines []string, line int) grower.State {
	t.Helper()
	s, _ := mustRun(t, lines[:line])
	return s
}

// eachAccepted calls a test with the accepted lines of a word, or of any, and their
// numbers.
func eachAccepted(lines []string, errors []api.Errno, word string, test func(line int, n []int)) {
	for line, text := range lines {
		if errors[line] != api.OK || word != "" && !strings.HasPrefix(text, word+" ") {
			continue
		}
		var n []int
		for _, x := range strings.Split(text, " ")[1:] {
			var number int
			fmt.Sscan(x, &number)
			n = append(n, number)
		}
		test(line, n)
	}
}

// enough asks whether what a test is about was there.
func enough(t *testing.T, counts map[string]int, least int) {
	t.Helper()
	for name, n := range counts {
		if n < least && !t.Failed() {
			t.Errorf("%s: %d times", name, n)
		}
	}
}

// The calls as the model has them: P12.1 to P12.6.

func TestModelRun(t *testing.T) {
	eachSession(t, 1000, func(_ *rand.Rand, lines []string) {
		m := modelRun(lines)
		if s, errors := mustRun(t, lines); !slices.Equal(errors, m.errors) || !same(s, m.State) {
			t.Errorf("Run of %q: %v, %v, not %v, %v", lines, s, errors, m.State, m.errors)
		}
		if text := mustReport(t, lines); text != m.report() {
			t.Errorf("Report of %q: %q, not %q", lines, text, m.report())
		}
	})
}

func TestModelRests(t *testing.T) {
	eachSession(t, 80, func(r *rand.Rand, lines []string) {
		errors := modelRun(lines).errors
		for line := range lines {
			l, e := grower.Rests(lines, line)
			if errors[line] != api.OK {
				if e != api.ErrState || l != nil {
					t.Errorf("Rests of %q, %d: %v, %v", lines, line, l, e)
				}
				continue
			}
			if r.Intn(3) > 0 {
				continue
			}
			others := modelRun(without(lines, line)).errors
			var want []int
			for later := line + 1; later < len(lines); later++ {
				if errors[later] == api.OK && others[later-1] != api.OK {
					want = append(want, later)
				}
			}
			if e != api.OK || !slices.Equal(l, want) {
				t.Errorf("Rests of %q, %d: %v, %v, not %v", lines, line, l, e, want)
			}
		}
	})
}

func TestModelTrace(t *testing.T) {
	counts := map[string]int{"of several": 0, "of none": 0}
	eachSession(t, 200, func(r *rand.Rand, lines []string) {
		m := modelRun(lines)
		for stock := range 11 {
			year := r.Intn(12)
			numbers, e := clone.Rests(m.Messages, stock, year)
			var want []int
			for _, n := range numbers {
				want = append(want, m.lines[n])
			}
			slices.Sort(want)
			l, f := grower.Trace(lines, stock, year)
			if f != e || !slices.Equal(l, want) || e != api.OK && l != nil {
				t.Errorf("Trace of %q, %d after %d: %v, %v, not %v, %v", lines, stock, year, l, f, want, e)
			}
			if len(want) > 1 {
				counts["of several"]++
			}
			if e == api.ErrNone {
				counts["of none"]++
			}
		}
	})
	enough(t, counts, 50)
}

// randomText has any bytes, mostly few of them.
func randomText(r *rand.Rand) string {
	b := make([]byte, r.Intn(1+[]int{3, 20, 200}[r.Intn(3)]))
	for n := range b {
		b[n] = byte(r.Intn(256))
	}
	return string(b)
}

func randomTexts(r *rand.Rand) []string {
	var l []string
	for range r.Intn(1 + []int{3, 10, 50}[r.Intn(3)]) {
		l = append(l, randomText(r))
	}
	return l
}

// spoilt changes a file, or has some bytes that are none.
func spoilt(r *rand.Rand, b []byte) []byte {
	b = slices.Clone(b)
	for range r.Intn(3) {
		if len(b) == 0 {
			return []byte(randomText(r))
		}
		at := r.Intn(len(b))
		switch r.Intn(4) {
		case 0:
			b[at] = byte(r.Intn(256))
		case 1:
			b = slices.Delete(b, at, at+1)
		case 2:
			b = slices.Insert(b, at, byte(r.Intn(256)))
		case 3:
			b = b[:at]
		}
	}
	return b
}

func TestModelFiles(t *testing.T) {
	repeat(t, 1500, func(r *rand.Rand) {
		lines := randomTexts(r)
		b := mustWrite(t, lines)
		if string(b) != modelFile(lines) {
			t.Errorf("Write of %q: %q, not %q", lines, b, modelFile(lines))
		}
		b = spoilt(r, b)
		want, most := modelRecover(string(b))
		if l, read := grower.Recover(b); !slices.Equal(l, want) || read != most {
			t.Errorf("Recover of %q: %q, %d, not %q, %d", b, l, read, want, most)
		}
	})
}

func TestModelResume(t *testing.T) {
	counts := map[string]int{"too many": 0, "some refused": 0}
	eachSession(t, 300, func(r *rand.Rand, lines []string) {
		at := r.Intn(len(lines) + 1)
		if r.Intn(2) == 0 {
			at = len(lines)
		}
		more := slices.Concat(lines[at:], randomSession(r))
		more = more[:min(len(more), r.Intn(51))]
		b := spoilt(r, mustWrite(t, lines[:at]))
		kept, _ := modelRecover(string(b))
		m := modelRun(slices.Concat(kept, more))
		for n, line := range more {
			if m.errors[len(m.errors)-len(more)+n] == api.OK {
				kept = append(kept, line)
			} else {
				counts["some refused"]++
			}
		}
		want, limit := modelFile(kept), api.OK
		if len(kept) > api.MaxSession {
			want, limit = "", api.ErrLimit
			counts["too many"]++
		}
		if file, e := grower.Resume(b, more); e != limit || string(file) != want {
			t.Errorf("Resume of %q, %q: %q, %v, not %q, %v", b, more, file, e, want, limit)
		}
	})
	enough(t, counts, 10)
}

// repeat calls a test so often.
func repeat(t *testing.T, n int, test func(r *rand.Rand)) {
	t.Helper()
	r := rand.New(rand.NewSource(13))
	for range n {
		test(r)
		if t.Failed() {
			return
		}
	}
}

// P12.7

func TestReplayed(t *testing.T) {
	eachSession(t, 500, func(_ *rand.Rand, lines []string) {
		s, errors := mustRun(t, lines)
		var alone []string
		eachAccepted(lines, errors, "", func(line int, _ []int) { alone = append(alone, lines[line]) })
		again, none := mustRun(t, alone)
		if slices.ContainsFunc(none, func(e api.Errno) bool { return e != api.OK }) || !same(s, again) || mustReport(t, lines) != mustReport(t, alone) {
			t.Errorf("Run of %q: %v; of %q alone: %v, %v", lines, s, alone, again, none)
		}
	})
}

// lacks tells whether the lot has fewer of the kind than are asked for, in some truth.
func lacks(t *testing.T, l label.Lot, kind, pure int) bool {
	t.Helper()
	for many := 0; many*1000 < pure*plantsOf(l); many++ {
		truth, e := label.Find(l, kind, many)
		if e == api.OK && label.ProveTruth(l, truth) {
			return true
		}
		if e != api.ErrNone {
			t.Fatalf("Find of %v, %d, %d: %v, %v", l, kind, many, truth, e)
		}
	}
	return false
}

// P12.8

func TestNoWrongName(t *testing.T) {
	counts := map[string]int{"sold": 0, "refused": 0}
	eachSession(t, 1200, func(r *rand.Rand, lines []string) {
		_, errors := mustRun(t, lines)
		sales := 0
		eachAccepted(lines, errors, "sell", func(line int, n []int) {
			lot := before(t, lines, line).Lot
			after, _ := mustRun(t, lines[:line+1])
			sales++
			counts["sold"]++
			if lacks(t, lot, n[0], n[1]) {
				t.Errorf("Run of %q: %q is no name of %v", lines, lines[line], lot)
			}
			if want := (grower.Sale{Kind: n[0], Plants: plantsOf(lot)}); len(after.Sales) != sales || after.Sales[sales-1] != want || len(after.Lot.Parts) > 0 {
				t.Errorf("Run of %q: %q of %v makes %v", lines, lines[line], lot, after)
			}
			// Each random truth of a part has so many plants of the kind together.
			number := 0
			for _, p := range lot.Parts {
				mixes := modelMixes(lot, p)
				number += mixes[r.Intn(len(mixes))][n[0]]
			}
			if number*1000 < n[1]*plantsOf(lot) {
				t.Errorf("Run of %q: %q, but %v may have %d", lines, lines[line], lot, number)
			}
		})
		for line, e := range errors {
			if e == api.ErrName {
				var kind, pure int
				fmt.Sscanf(lines[line], "sell %d %d", &kind, &pure)
				counts["refused"]++
				if lot := before(t, lines, line).Lot; !lacks(t, lot, kind, pure) {
					t.Errorf("Run of %q: %q is a name of %v", lines, lines[line], lot)
				}
			}
		}
		// What is looked at in the end can be.
		if s, _ := mustRun(t, lines); len(s.Lot.Parts) > 0 {
			if _, e := label.Count(s.Lot); e != api.OK {
				t.Errorf("Run of %q: %v cannot be", lines, s.Lot)
			}
		}
	})
	enough(t, counts, 100)
}

// randomMessages are lines of messages that do not contradict each other.
func randomMessages(r *rand.Rand) []string {
	m := &maker{Rand: r, model: modelRun(nil), numbers: api.MaxNumber}
	var lines []string
	for range r.Intn(api.MaxMessages + 1) {
		line := m.randomLine(wordsOf[0][r.Intn(4)])
		if m.enter(line) == api.OK {
			lines = append(lines, line)
		}
	}
	return lines
}

// traces are the lines on which each stock rests after each year.
func traces(t *testing.T, lines []string) string {
	t.Helper()
	var all strings.Builder
	for stock := 1; stock <= 9; stock++ {
		for year := 0; year <= 10; year += 2 {
			l, e := grower.Trace(lines, stock, year)
			var texts []string
			for _, line := range l {
				texts = append(texts, lines[line])
			}
			slices.Sort(texts)
			fmt.Fprintln(&all, stock, year, e, strings.Join(texts, "; "))
		}
	}
	return all.String()
}

// P12.9

func TestAnyOrder(t *testing.T) {
	repeat(t, 80, func(r *rand.Rand) {
		lines := randomMessages(r)
		other := slices.Clone(lines)
		r.Shuffle(len(other), func(i, j int) { other[i], other[j] = other[j], other[i] })
		a, _ := mustRun(t, lines)
		b, errors := mustRun(t, other)
		if slices.ContainsFunc(errors, func(e api.Errno) bool { return e != api.OK }) || mustReport(t, lines) != mustReport(t, other) || traces(t, lines) != traces(t, other) {
			t.Errorf("Run of %q: %v, and of %q: %v, %v", lines, a, other, b, errors)
		}
	})
}

func TestRegister(t *testing.T) {
	eachSession(t, 300, func(_ *rand.Rand, lines []string) {
		s, _ := mustRun(t, lines)
		ordered, e := clone.Gather([][]clone.Message{s.Messages})
		if e != api.OK {
			t.Fatalf("Gather of %v: %v", s.Messages, e)
		}
		var told []string
		for _, x := range ordered {
			told = append(told, lineTold(x))
		}
		again, errors := mustRun(t, told)
		file, e := clone.Write(s.Messages)
		other, f := clone.Write(again.Messages)
		if slices.ContainsFunc(errors, func(e api.Errno) bool { return e != api.OK }) || e != api.OK || f != api.OK || !bytes.Equal(file, other) || !slices.Equal(again.Messages, ordered) {
			t.Errorf("Run of %q: %v, %v, not %v", told, again, errors, s)
		}
	})
}

// P12.10

func TestCounted(t *testing.T) {
	counts := map[string]int{"uses": 0, "debts": 0}
	eachSession(t, 500, func(_ *rand.Rand, lines []string) {
		s, errors := mustRun(t, lines)
		if _, n, e := right.Share(s.Licences, s.Uses); e != api.OK || n != 0 {
			t.Errorf("Run of %q: %d are short, %v", lines, n, e)
		}
		counts["uses"] += len(s.Uses)
		for line, e := range errors {
			if e != api.ErrDebt || len(before(t, lines, line).Licences) == api.MaxLicences || line+2 > api.MaxSession {
				continue
			}
			counts["debts"]++
			var variety, day, bulbs int
			fmt.Sscanf(lines[line], "use %d %d %d", &variety, &day, &bulbs)
			more := slices.Concat(lines[:line], []string{fmt.Sprintf("licence %d %d %d %d", variety, day, day, bulbs), lines[line]})
			if _, errors := mustRun(t, more); errors[line] != api.OK || errors[line+1] != api.OK {
				t.Errorf("Run of %q: %v", more, errors)
			}
		}
	})
	enough(t, counts, 200)
}

// P12.11

func TestWater(t *testing.T) {
	counts := map[string]int{"rain": 0, "moved": 0, "paid": 0}
	eachSession(t, 1500, func(_ *rand.Rand, lines []string) {
		s, errors := mustRun(t, lines)
		paid := 0
		eachAccepted(lines, errors, "rain", func(line int, n []int) {
			was, after := before(t, lines, line).Polder, before(t, lines, line+1)
			level := after.Polder.Start
			amount := was.Start.Lo + n[0] - was.Days[0].Seep - level.Lo
			paid += modelPrice(was.Days[0], amount)
			counts["rain"]++
			if amount != 0 {
				counts["moved"]++
			}
			if level.Lo != level.Hi || !has(was.Low, was.High, level.Lo) || !has(-was.Inlet, was.Pump, amount) || after.Paid != paid || len(after.Polder.Days) != len(was.Days)-1 {
				t.Errorf("Run of %q: %q makes %v of %v, and %d is paid, not %d", lines, lines[line], after.Polder, was, after.Paid, paid)
			}
		})
		if s.Paid != paid {
			t.Errorf("Run of %q: %d is paid, not %d", lines, s.Paid, paid)
		}
		if paid > 0 {
			counts["paid"]++
		}
	})
	enough(t, counts, 100)
}

// randomRains are rain lines for days that have not come, of which each is mostly
// close to an end of what it may rain.
func randomRains(r *rand.Rand, days []polder.Day) []string {
	var l []string
	kind := r.Intn(4)
	for _, d := range days {
		rain := d.Rain.Lo + r.Intn(d.Rain.Hi-d.Rain.Lo+1)
		switch {
		case kind == 0:
			rain = d.Rain.Lo
		case kind == 1:
			rain = d.Rain.Hi
		}
		l = append(l, fmt.Sprintf("rain %d", rain))
	}
	return l
}

func TestWhateverItRains(t *testing.T) {
	counts := map[string]int{"held": 0, "several days": 0, "as much as it costs": 0}
	eachSession(t, 1500, func(r *rand.Rand, lines []string) {
		lines = lines[:min(len(lines), api.MaxSession-api.MaxDays)]
		s, _ := mustRun(t, lines)
		cost, e := polder.Least(s.Polder)
		if e != api.OK {
			return
		}
		counts["held"]++
		if len(s.Polder.Days) > 2 {
			counts["several days"]++
		}
		for range 5 {
			rains := randomRains(r, s.Polder.Days)
			after, errors := mustRun(t, slices.Concat(lines, rains))
			if slices.ContainsFunc(errors[len(lines):], func(e api.Errno) bool { return e != api.OK }) || after.Paid-s.Paid > cost || len(after.Polder.Days) > 0 {
				t.Errorf("Run of %q, and %q: %v, %d was paid before, and %d is the cost; %v", lines, rains, after, s.Paid, cost, errors)
			}
			if cost > 0 && after.Paid-s.Paid == cost {
				counts["as much as it costs"]++
			}
		}
	})
	enough(t, counts, 20)
}

// P12.12

func TestLinesThatRest(t *testing.T) {
	counts := map[string]int{"rest": 0, "none rest": 0}
	eachSession(t, 150, func(_ *rand.Rand, lines []string) {
		_, errors := mustRun(t, lines)
		eachAccepted(lines, errors, "", func(line int, _ []int) {
			rests := mustRest(t, lines, line)
			for n, later := range rests {
				if later <= line || errors[later] != api.OK || n > 0 && later <= rests[n-1] {
					t.Errorf("Rests of %q, %d: %v", lines, line, rests)
				}
			}
			if len(rests) > 0 {
				counts["rest"]++
				return
			}
			counts["none rest"]++
			_, others := mustRun(t, without(lines, line))
			for n, e := range without(errors, line) {
				if e == api.OK && others[n] != api.OK {
					t.Errorf("Rests of %q, %d: none; without it: %v, before %v", lines, line, others, errors)
				}
			}
		})
	})
	enough(t, counts, 100)
}

// whole is how many of the records of the lines are in so many bytes.
func whole(lines []string, size int) int {
	n := 0
	for n < len(lines) && size >= len(modelRecord(n, lines[n])) {
		size -= len(modelRecord(n, lines[n]))
		n++
	}
	return n
}

// recovers asks for the first lines, and no more.
func recovers(t *testing.T, name string, b []byte, lines []string, n int) {
	t.Helper()
	want := modelFile(lines[:n])
	if l, read := grower.Recover(b); !slices.Equal(l, lines[:n]) || read != len(want) {
		t.Errorf("Recover of %q, %s: %q, %d, not %q", b, name, l, read, lines[:n])
	}
}

// randomBook has random lines, or those of a session.
func randomBook(r *rand.Rand) []string {
	if r.Intn(2) == 0 {
		return randomTexts(r)
	}
	return randomSession(r)
}

// P12.13

func TestStopped(t *testing.T) {
	repeat(t, 60, func(r *rand.Rand) {
		lines := randomBook(r)
		b := mustWrite(t, lines)
		for size := range len(b) + 1 {
			recovers(t, "a beginning", b[:size], lines, whole(lines, size))
		}
	})
}

func TestOneByte(t *testing.T) {
	repeat(t, 25, func(r *rand.Rand) {
		lines := randomBook(r)
		b := mustWrite(t, lines)
		for at, is := range b {
			for _, other := range []byte{is ^ 1, is + 1, is - 1, byte(r.Intn(256)), "0123456789"[r.Intn(10)]} {
				if other == is {
					continue
				}
				b[at] = other
				recovers(t, "with a byte changed", b, lines, whole(lines, at))
			}
			b[at] = is
		}
	})
	// Each byte that there is, at each place of a short file.
	lines := []string{"a", "", "rain 3"}
	b := mustWrite(t, lines)
	for at, is := range b {
		for change := 1; change < 256; change++ {
			b[at] = is + byte(change)
			recovers(t, "with a byte changed", b, lines, whole(lines, at))
		}
		b[at] = is
	}
}

// P12.14

func TestBound(t *testing.T) {
	repeat(t, 300, func(r *rand.Rand) {
		lines := randomBook(r)
		for n := range lines {
			head, tail := modelFile(lines[:n]), ""
			for i := n + 1; i < len(lines); i++ {
				tail += modelRecord(i, lines[i])
			}
			own := modelRecord(n, lines[n])
			if b := []byte(head + tail); n+1 < len(lines) {
				recovers(t, "with a record taken out", b, lines, n)
			}
			recovers(t, "with a record twice", []byte(head+own+own+tail), lines, n+1)
		}
	})
}

// P12.15

func TestResumed(t *testing.T) {
	eachSession(t, 60, func(r *rand.Rand, lines []string) {
		_, errors := mustRun(t, lines)
		var accepted []string
		eachAccepted(lines, errors, "", func(line int, _ []int) { accepted = append(accepted, lines[line]) })
		file := mustWrite(t, accepted)
		if b, e := grower.Resume(nil, lines); e != api.OK || !bytes.Equal(b, file) {
			t.Errorf("Resume of nothing with %q: %q, %v", lines, b, e)
		}
		for size := r.Intn(9); size <= len(file); size += 1 + r.Intn(25) {
			lost := accepted[whole(accepted, size):]
			if b, e := grower.Resume(file[:size], lost); e != api.OK || !bytes.Equal(b, file) {
				t.Errorf("Resume of %q with %q: %q, %v", file[:size], lost, b, e)
			}
		}
	})
}

// The rules: nil and empty lists, memory, and any arguments.

func TestNil(t *testing.T) {
	s, errors, e := grower.Run([]string{})
	if e != api.OK || len(errors) != 0 || !same(s, grower.State{}) {
		t.Errorf("Run of nothing: %v, %v, %v", s, errors, e)
	}
	for _, none := range [][]string{nil, {}} {
		if b, e := grower.Write(none); e != api.OK || len(b) != 0 {
			t.Errorf("Write of nothing: %q, %v", b, e)
		}
		for _, b := range [][]byte{nil, {}} {
			if file, e := grower.Resume(b, none); e != api.OK || len(file) != 0 {
				t.Errorf("Resume of nothing: %q, %v", file, e)
			}
		}
		if mustReport(t, none) != "orphans 0\nleft 0\nsold 0\nwater 0 days 0 paid 0\n" {
			t.Errorf("Report of nothing: %q", mustReport(t, none))
		}
	}
}

// scrawl writes over all lists of a state, and behind their ends.
func scrawl(s *grower.State) {
	for n := range s.Messages {
		s.Messages[n] = clone.Message{Number: 7777}
	}
	for n := range s.Licences {
		s.Licences[n] = right.Licence{Bulbs: 7777}
	}
	for n := range s.Uses {
		s.Uses[n] = right.Use{Bulbs: 7777}
	}
	for n := range s.Sales {
		s.Sales[n] = grower.Sale{Plants: 7777}
	}
	for n := range s.Polder.Days {
		s.Polder.Days[n] = polder.Day{Seep: 7777}
	}
}

// TestMemory has two results of one call, and lists of one result, side by side.
func TestMemory(t *testing.T) {
	eachSession(t, 200, func(_ *rand.Rand, lines []string) {
		copied := slices.Clone(lines)
		s, errors := mustRun(t, lines)
		other, _ := mustRun(t, lines)
		kept := fmt.Sprint(other)
		scrawl(&s)
		if fmt.Sprint(other) != kept {
			t.Errorf("Run of %q: %v, and before %v", lines, other, kept)
		}
		// Whatever is written to one list of numbers, or put behind it, no other one changes.
		var all [][]int
		all = append(all, other.Lot.Looks...)
		for _, p := range other.Lot.Parts {
			all = append(all, p.Seen...)
		}
		for n, l := range all {
			for i := range l {
				l[i] = 1000 + n
			}
			_ = append(l, 7777, 7777, 7777)
		}
		for n, l := range all {
			if slices.ContainsFunc(l, func(x int) bool { return x != 1000+n }) {
				t.Errorf("Run of %q: %v", lines, all)
			}
		}
		clear(errors)
		b := mustWrite(t, lines)
		l, _ := grower.Recover(b)
		file, _ := grower.Resume(b, nil)
		for n := range b {
			b[n] = 0
		}
		if !slices.Equal(l, lines) || !slices.Equal(lines, copied) || !bytes.Equal(file, mustWrite(t, lines)) {
			t.Errorf("Recover, and Resume, of what was changed then: %q, %q, not %q", l, file, lines)
		}
	})
}

// TestArguments has lines and bytes with room behind them, which stay as they are.
func TestArguments(t *testing.T) {
	room := append(dunes(), "x", "y", "z")
	lines := room[:len(dunes())]
	b := append(mustWrite(t, dunes()), "<00009999"...)
	file := b[:len(b)-9]
	for line := range lines {
		grower.Rests(lines, line)
	}
	grower.Run(lines)
	grower.Trace(lines, 12, 1910)
	grower.Report(lines)
	grower.Write(lines)
	grower.Recover(file)
	grower.Resume(file[:40], lines)
	if !slices.Equal(room, append(dunes(), "x", "y", "z")) || string(b) != modelFile(dunes())+"<00009999" {
		t.Errorf("%q, %q", room, b)
	}
}

// P1

func TestAnything(t *testing.T) {
	repeat(t, 400, func(r *rand.Rand) {
		lines := slices.Concat(randomSession(r), randomTexts(r))
		if r.Intn(10) == 0 {
			lines = append(lines, strings.Repeat(randomText(r), 3))
		}
		r.Shuffle(len(lines), func(i, j int) { lines[i], lines[j] = lines[j], lines[i] })
		s, errors, e := grower.Run(lines)
		again, others, f := grower.Run(lines)
		if e != f || !same(s, again) || !slices.Equal(errors, others) || (e == api.OK) != (len(errors) == len(lines)) && len(lines) > 0 {
			t.Errorf("Run of %q: %v, %v, %v, and %v, %v, %v", lines, s, errors, e, again, others, f)
		}
		grower.Rests(lines, r.Intn(60)-5)
		grower.Trace(lines, r.Intn(20)-5, r.Intn(4000)-5)
		grower.Report(lines)
		b, _ := grower.Write(lines)
		b = spoilt(r, append(b, randomText(r)...))
		grower.Recover(b)
		grower.Resume(b, lines)
	})
}

// TestGreatSessions has as much of all as there may be.
func TestGreatSessions(t *testing.T) {
	water := append([]string{"polder 0 60 30 20 20"}, slices.Repeat([]string{"day 0 30 15 100 100"}, 12)...)
	water = append(water, slices.Repeat([]string{"rain 30", "day 0 30 15 100 100"}, 18)...)
	lot := linesOf("kind 0 0; kind 0 1; kind 1 0; kind 1 1; kind 2 2; part 20; part 20; part 20; part 20")
	for n := range 40 {
		lot = append(lot, fmt.Sprintf("look %d %d 10 10 0 0", n%4, n/4%2))
	}
	share := append(repeated(12, "licence 1 %d 40 1000000"), repeated(12, "use 1 %d 1000000")...)
	share = append(share, slices.Repeat([]string{"use 1 5 1"}, 26)...)
	for _, lines := range [][]string{water, lot, share, repeated(50, "seed %d 3000 %d 1")} {
		m := modelRun(lines)
		s, errors := mustRun(t, lines)
		if !slices.Equal(errors, m.errors) || !same(s, m.State) || mustReport(t, lines) != m.report() {
			t.Errorf("Run of %q: %v, %v, not %v, %v", lines, s, errors, m.State, m.errors)
		}
		for line, e := range errors {
			if _, f := grower.Rests(lines, line); (e == api.OK) != (f == api.OK) {
				t.Errorf("Rests of %q, %d: %v", lines, line, f)
			}
		}
		if _, e := grower.Resume(mustWrite(t, lines), lines); e != api.OK && e != api.ErrLimit {
			t.Errorf("Resume of %q: %v", lines, e)
		}
	}
}

package clone_test

import (
	"bytes"
	"math/rand"
	"regexp"
	"slices"
	"strconv"
	"strings"
	"testing"

	"bybloem/api"
	"bybloem/clone"
)

// told is all that the calls say of messages.
type told struct {
	states  []clone.State
	was     []bool
	rests   [][]int
	orphans []int
	file    string
}

func tellAll(t *testing.T, l []clone.Message) told {
	t.Helper()
	var a told
	eachState(func(stock, year int) {
		s, was := mustTell(t, l, stock, year)
		rests, _ := clone.Rests(l, stock, year)
		a.states, a.was, a.rests = append(a.states, s), append(a.was, was), append(a.rests, rests)
	})
	orphans, e := clone.Orphans(l)
	file, f := clone.Write(l)
	if e != api.OK || f != api.OK {
		t.Fatalf("Orphans and Write of %v: %v, %v", l, e, f)
	}
	a.orphans, a.file = orphans, string(file)
	return a
}

func (a told) equals(b told) bool {
	return slices.EqualFunc(a.states, b.states, sameState) && slices.Equal(a.was, b.was) &&
		slices.EqualFunc(a.rests, b.rests, slices.Equal) && slices.Equal(a.orphans, b.orphans) && a.file == b.file
}

// someTwice returns the messages with some of them twice, as many as a list can
// have, in another order.
func someTwice(r *rand.Rand, l []clone.Message) []clone.Message {
	out := slices.Clone(l)
	for len(l) > 0 && len(out) < api.MaxMessages && r.Intn(4) > 0 {
		out = append(out, l[r.Intn(len(l))])
	}
	r.Shuffle(len(out), func(i, j int) { out[i], out[j] = out[j], out[i] })
	return out
}

// deal lays each message on one or more of up to MaxLists lists.
func deal(r *rand.Rand, l []clone.Message) [][]clone.Message {
	lists := make([][]clone.Message, 1+r.Intn(api.MaxLists))
	for _, m := range append(slices.Clone(l), someTwice(r, l)...) {
		if to := r.Intn(len(lists)); len(lists[to]) < api.MaxMessages {
			lists[to] = append(lists[to], m)
		}
	}
	return lists
}

// P1.7

func TestAnyOrder(t *testing.T) {
	eachBook(t, 150, func(r *rand.Rand, l []clone.Message) {
		want := tellAll(t, l)
		if !tellAll(t, someTwice(r, l)).equals(want) {
			t.Errorf("other things told in another order of %v", l)
		}
		lists := deal(r, l)
		g, e := clone.Gather(lists)
		if e != api.OK || !slices.Equal(g, inOrder(l)) {
			t.Errorf("Gather of %v: %v, %v", lists, g, e)
		}
		if !tellAll(t, g).equals(want) {
			t.Errorf("other things told of what was gathered from %v", lists)
		}
	})
}

// grow plays a truth: what each stock truly has after the done messages. It
// tells false if it comes to a sport of a stock that truly has no clone for it.
func grow(r *rand.Rand, done []clone.Message) (map[int][]clone.Clone, bool) {
	truth := map[int][]clone.Clone{}
	for _, m := range done {
		switch m.Kind {
		case clone.Seed:
			truth[m.Stock] = []clone.Clone{{Seedling: m.What}}
		case clone.Offset:
			from := truth[m.From]
			got := []clone.Clone{from[r.Intn(len(from))]}
			for _, c := range from {
				if r.Intn(2) == 0 && !slices.Contains(got, c) {
					got = append(got, c)
				}
			}
			truth[m.Stock] = got
		case clone.Sport:
			sports := sportsOf(truth[m.From], m.What)
			if len(sports) == 0 {
				return nil, false
			}
			truth[m.Stock] = []clone.Clone{sports[r.Intn(len(sports))]}
		case clone.Join:
			truth[m.Stock] = clonesInOrder(append(slices.Clone(truth[m.Stock]), truth[m.From]...))
		}
	}
	return truth, true
}

// P1.8

func TestWhateverGrew(t *testing.T) {
	truths := 0
	eachBook(t, 300, func(r *rand.Rand, l []clone.Message) {
		year := r.Intn(lastYear + 1)
		done := modelAfter(l, year).done
		for range 5 {
			truth, ok := grow(r, done)
			if !ok {
				continue
			}
			truths++
			for stock, has := range truth {
				s, was := mustTell(t, l, stock, year)
				for _, c := range has {
					if !was || !slices.Contains(s.May, c) {
						t.Errorf("%d truly has %v after %d of %v, but: %v", stock, c, year, l, s)
					}
				}
				for _, c := range s.Sure {
					if !slices.Contains(has, c) {
						t.Errorf("%d truly lacks %v after %d of %v, but: %v", stock, c, year, l, s)
					}
				}
			}
		}
	})
	if truths < 500 {
		t.Errorf("only %d truths", truths)
	}
}

// Each clone that a stock of the example may have it has in some truth, and each
// one that it does not surely have it lacks in some (P2).
func TestTruthsReachAll(t *testing.T) {
	may, lacks := map[int][]clone.Clone{}, map[int][]clone.Clone{}
	r := rand.New(rand.NewSource(2))
	done := modelAfter(book(), lastYear+3000).done
	for range 200 {
		truth, _ := grow(r, done)
		for stock, has := range truth {
			may[stock] = append(may[stock], has...)
			s, _ := mustTell(t, book(), stock, 3000)
			for _, c := range s.May {
				if !slices.Contains(has, c) {
					lacks[stock] = append(lacks[stock], c)
				}
			}
		}
	}
	for stock := range may {
		s, _ := mustTell(t, book(), stock, 3000)
		unsure := slices.DeleteFunc(slices.Clone(s.May), func(c clone.Clone) bool { return slices.Contains(s.Sure, c) })
		if !slices.Equal(s.May, clonesInOrder(may[stock])) || !slices.Equal(unsure, clonesInOrder(lacks[stock])) {
			t.Errorf("%d has %v in truths, lacks %v, and is told as %v", stock, may[stock], lacks[stock], s)
		}
	}
}

// P1.9

func TestLaterYears(t *testing.T) {
	eachBook(t, 150, func(_ *rand.Rand, l []clone.Message) {
		eachState(func(stock, year int) {
			early := slices.DeleteFunc(slices.Clone(l), func(m clone.Message) bool { return m.Year > year })
			a, was := mustTell(t, l, stock, year)
			b, wasEarly := mustTell(t, early, stock, year)
			if was != wasEarly || !sameState(a, b) {
				t.Errorf("%d after %d of %v: %v, %v; without later messages %v, %v", stock, year, l, a, was, b, wasEarly)
			}
		})
	})
}

// restedOn returns the messages on which a stock rests.
func restedOn(t *testing.T, l []clone.Message, stock, year int) []clone.Message {
	t.Helper()
	numbers, e := clone.Rests(l, stock, year)
	if e != api.OK {
		t.Fatalf("Rests of %d after %d of %v: %v", stock, year, l, e)
	}
	return slices.DeleteFunc(slices.Clone(l), func(m clone.Message) bool { return !slices.Contains(numbers, m.Number) })
}

// P1.10

func TestRestsAlone(t *testing.T) {
	eachBook(t, 150, func(_ *rand.Rand, l []clone.Message) {
		orphans, _ := clone.Orphans(l)
		eachState(func(stock, year int) {
			s, was := mustTell(t, l, stock, year)
			if !was {
				return
			}
			alone := restedOn(t, l, stock, year)
			if a, _ := mustTell(t, alone, stock, year); !sameClones(a, s) {
				t.Errorf("%d after %d of %v: %v; by %v alone: %v", stock, year, l, s, alone, a)
			}
			for _, m := range alone {
				if slices.Contains(orphans, m.Number) || m.Year > year {
					t.Errorf("%d after %d of %v rests on %v", stock, year, l, m)
				}
			}
		})
	})
}

// P1.11

func TestSeedlings(t *testing.T) {
	eachBook(t, 150, func(_ *rand.Rand, l []clone.Message) {
		eachState(func(stock, year int) {
			s, was := mustTell(t, l, stock, year)
			if !was {
				return
			}
			var seedlings, sports []int
			for _, m := range restedOn(t, l, stock, year) {
				switch m.Kind {
				case clone.Seed:
					seedlings = append(seedlings, m.What)
				case clone.Sport:
					sports = append(sports, m.What)
				}
			}
			for _, c := range s.May {
				if !slices.Contains(seedlings, c.Seedling) {
					t.Errorf("%d after %d of %v: %v is from no seedling", stock, year, l, c)
				}
				for _, what := range []int{c.A, c.B, c.C} {
					if what != 0 && !slices.Contains(sports, what) {
						t.Errorf("%d after %d of %v: %v is from no sport", stock, year, l, c)
					}
				}
			}
			for _, c := range s.Sure {
				if !slices.Contains(s.May, c) {
					t.Errorf("%d after %d of %v: %v is sure, but may not be", stock, year, l, c)
				}
			}
			if len(s.May) == 0 || len(s.May) == 1 && len(s.Sure) != 1 {
				t.Errorf("%d after %d of %v: %v", stock, year, l, s)
			}
		})
	})
}

// P1.12

func TestJoined(t *testing.T) {
	eachBook(t, 150, func(_ *rand.Rand, l []clone.Message) {
		orphans, _ := clone.Orphans(l)
		ordered := inOrder(l)
		for i, m := range ordered {
			if m.Kind != clone.Join || slices.Contains(orphans, m.Number) {
				continue
			}
			a, _ := mustTell(t, ordered[:i], m.Stock, m.Year)
			b, _ := mustTell(t, ordered[:i], m.From, m.Year)
			after, _ := mustTell(t, ordered[:i+1], m.Stock, m.Year)
			may, sure := clonesInOrder(append(a.May, b.May...)), clonesInOrder(append(a.Sure, b.Sure...))
			if !a.There || !b.There || !sameState(after, clone.State{There: true, May: may, Sure: sure}) {
				t.Errorf("%v of %v: %v and %v are %v", m, l, a, b, after)
			}
			for year := m.Year; year <= lastYear+1; year++ {
				if gone, was := mustTell(t, l, m.From, year); !was || gone.There || !sameClones(gone, b) {
					t.Errorf("%v of %v: %v after %d", m, l, gone, year)
				}
			}
		}
	})
}

const number = `(0|[1-9]\d{0,4})`

var line = regexp.MustCompile(`^` + number + ` ` + number + ` (seed|offset|sport|join) ` + number + ` ` + number + `(?: ` + number + `)?$`)

// isFile tells whether bytes are a file, from the text of its lines.
func isFile(b []byte) bool {
	text := string(b)
	if text != "" && !strings.HasSuffix(text, "\n") {
		return false
	}
	var l []clone.Message
	for text != "" {
		one, rest, _ := strings.Cut(text, "\n")
		text = rest
		words := line.FindStringSubmatch(one)
		if words == nil || (words[6] != "") != (words[3] == "sport") {
			return false
		}
		var m [7]int
		for i, word := range words {
			m[i], _ = strconv.Atoi(word)
		}
		switch words[3] {
		case "seed":
			l = append(l, seed(m[1], m[2], m[4], m[5]))
		case "offset":
			l = append(l, offset(m[1], m[2], m[4], m[5]))
		case "sport":
			l = append(l, sport(m[1], m[2], m[4], m[5], m[6]))
		case "join":
			l = append(l, join(m[1], m[2], m[4], m[5]))
		}
	}
	return clone.CheckMessages(l) == api.OK && slices.Equal(l, inOrder(l))
}

// scratch changes, takes out or adds some bytes, or swaps or repeats lines.
func scratch(r *rand.Rand, file []byte) []byte {
	const some = "0123456789 \nsjo\x00-+"
	b := bytes.Clone(file)
	for len(b) > 0 && r.Intn(3) > 0 {
		i := r.Intn(len(b))
		switch r.Intn(5) {
		case 0:
			b[i] = some[r.Intn(len(some))]
		case 1:
			b = slices.Delete(b, i, i+1)
		case 2:
			b = slices.Insert(b, i, some[r.Intn(len(some))])
		case 3:
			b = b[:i]
		case 4:
			lines := bytes.SplitAfter(b, []byte("\n"))
			j, k := r.Intn(len(lines)), r.Intn(len(lines))
			lines[j] = lines[k]
			b = bytes.Join(lines, nil)
		}
	}
	return b
}

// P1.13

func TestFiles(t *testing.T) {
	accepted, refused := 0, 0
	eachBook(t, 300, func(r *rand.Rand, l []clone.Message) {
		file, e := clone.Write(someTwice(r, l))
		got, f := clone.Read(file)
		if e != api.OK || f != api.OK || !slices.Equal(got, inOrder(l)) {
			t.Errorf("Write and Read of %v: %v, %v, %v", l, got, e, f)
		}
		for range 30 {
			b := scratch(r, file)
			got, e := clone.Read(b)
			again, f := clone.Write(got)
			switch {
			case e == api.OK && (f != api.OK || !bytes.Equal(again, b) || !isFile(b)):
				t.Errorf("Read of %q: %v, of which Write made %q, %v", b, got, again, f)
			case e != api.OK && (e != api.ErrForm || got != nil || isFile(b)):
				t.Errorf("Read of %q: %v, %v", b, got, e)
			case e == api.OK && !bytes.Equal(b, file):
				accepted++
			case e != api.OK:
				refused++
			}
		}
	})
	if accepted < 100 || refused < 100 {
		t.Errorf("changed files accepted %d, refused %d", accepted, refused)
	}
}

// P1.14

func TestHeirsAndTell(t *testing.T) {
	eachBook(t, 150, func(r *rand.Rand, l []clone.Message) {
		year := r.Intn(lastYear + 1)
		asked := []clone.Clone{of(1), of(3, 4, 4, 4), of(9999, 99)}
		for _, s := range modelAfter(l, lastYear).stocks {
			asked = append(asked, s.may...)
		}
		for _, c := range clonesInOrder(asked) {
			var surely, perhaps []int
			for stock := 1; stock <= lastStock; stock++ {
				s, _ := mustTell(t, l, stock, year)
				if s.There && slices.Contains(s.Sure, c) {
					surely = append(surely, stock)
				}
				if s.There && slices.Contains(s.May, c) {
					perhaps = append(perhaps, stock)
				}
			}
			a, b, e := clone.Heirs(l, c, year)
			if e != api.OK || !slices.Equal(a, surely) || !slices.Equal(b, perhaps) {
				t.Errorf("Heirs of %v after %d of %v: %v, %v, %v", c, year, l, a, b, e)
			}
		}
	})
}

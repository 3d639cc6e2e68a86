package clone_test

import (
	"math/rand"
	"slices"
	"sort"
	"testing"

	"bybloem/api"
	"bybloem/clone"
)

// The model does messages as the chapter tells it, with lists alone and as
// little of the program as can be. Books of random messages, always the same
// ones, are done by both.

func seed(number, year, stock, what int) clone.Message {
	return clone.Message{Number: number, Year: year, Kind: clone.Seed, Stock: stock, What: what}
}

func offset(number, year, stock, from int) clone.Message {
	return clone.Message{Number: number, Year: year, Kind: clone.Offset, Stock: stock, From: from}
}

func sport(number, year, stock, from, what int) clone.Message {
	return clone.Message{Number: number, Year: year, Kind: clone.Sport, Stock: stock, From: from, What: what}
}

func join(number, year, stock, from int) clone.Message {
	return clone.Message{Number: number, Year: year, Kind: clone.Join, Stock: stock, From: from}
}

// of is the clone of a seedling with these sports.
func of(seedling int, sports ...int) clone.Clone {
	sports = append(sports, 0, 0, 0)
	return clone.Clone{Seedling: seedling, A: sports[0], B: sports[1], C: sports[2]}
}

// held is a stock of the model.
type held struct {
	there     bool
	may, sure []clone.Clone
}

// model is the register of the model.
type model struct {
	stocks  map[int]*held
	done    []clone.Message
	orphans []int
}

func comesBefore(a, b clone.Message) bool {
	return a.Year < b.Year || a.Year == b.Year && a.Number < b.Number
}

func inOrder(l []clone.Message) []clone.Message {
	var out []clone.Message
	for _, m := range l {
		if !slices.Contains(out, m) {
			out = append(out, m)
		}
	}
	sort.Slice(out, func(i, j int) bool { return comesBefore(out[i], out[j]) })
	return out
}

func clonesInOrder(l []clone.Clone) []clone.Clone {
	key := func(c clone.Clone) int { return ((c.Seedling*100+c.A)*100+c.B)*100 + c.C }
	var out []clone.Clone
	for _, c := range l {
		if !slices.Contains(out, c) {
			out = append(out, c)
		}
	}
	sort.Slice(out, func(i, j int) bool { return key(out[i]) < key(out[j]) })
	return out
}

func sportsOf(l []clone.Clone, what int) []clone.Clone {
	var out []clone.Clone
	for _, c := range l {
		switch {
		case c.A == 0:
			c.A = what
		case c.B == 0:
			c.B = what
		case c.C == 0:
			c.C = what
		default:
			continue
		}
		out = append(out, c)
	}
	return out
}

func modelAfter(l []clone.Message, year int) model {
	b := model{stocks: map[int]*held{}}
	for _, m := range inOrder(l) {
		if m.Year > year {
			continue
		}
		if b.does(m) {
			b.done = append(b.done, m)
		} else {
			b.orphans = append(b.orphans, m.Number)
		}
	}
	sort.Ints(b.orphans)
	return b
}

func (b *model) does(m clone.Message) bool {
	own, from := b.stocks[m.Stock], b.stocks[m.From]
	if m.Kind == clone.Join {
		if own == nil || from == nil || !own.there || !from.there {
			return false
		}
		own.may = clonesInOrder(append(slices.Clone(own.may), from.may...))
		own.sure = clonesInOrder(append(slices.Clone(own.sure), from.sure...))
		from.there = false
		return true
	}
	if own != nil || m.Kind != clone.Seed && (from == nil || !from.there) {
		return false
	}
	var may []clone.Clone
	switch m.Kind {
	case clone.Seed:
		may = []clone.Clone{{Seedling: m.What}}
	case clone.Offset:
		may = slices.Clone(from.may)
	case clone.Sport:
		may = clonesInOrder(sportsOf(from.may, m.What))
	}
	if len(may) == 0 {
		return false
	}
	s := &held{there: true, may: may}
	if len(may) == 1 {
		s.sure = may
	}
	b.stocks[m.Stock] = s
	return true
}

// restsOn looks back through the done messages of the model.
func (b *model) restsOn(stock int) []int {
	set := []int{stock}
	var out []int
	for i := len(b.done) - 1; i >= 0; i-- {
		m := b.done[i]
		at := slices.Index(set, m.Stock)
		if at < 0 {
			continue
		}
		out = append(out, m.Number)
		if m.Kind != clone.Join {
			set = slices.Delete(set, at, at+1)
		}
		if m.Kind != clone.Seed && !slices.Contains(set, m.From) {
			set = append(set, m.From)
		}
	}
	sort.Ints(out)
	return out
}

const lastStock, lastYear = 14, 7

// randomMessage is of one of few stocks, so that much can be done.
func randomMessage(r *rand.Rand, number, year int) clone.Message {
	stock := 1 + r.Intn(lastStock)
	from := 1 + r.Intn(lastStock-1)
	if from >= stock {
		from++
	}
	switch r.Intn(9) {
	case 0, 1:
		return seed(number, year, stock, 1+r.Intn(3))
	case 2, 3:
		return offset(number, year, stock, from)
	case 4, 5, 6:
		return sport(number, year, stock, from, 1+r.Intn(4))
	}
	return join(number, year, stock, from)
}

// randomBook has up to MaxMessages messages that do not contradict each other,
// in any order. Most of them can be done; in each year the numbers rise, but
// those of a later year may be less.
func randomBook(r *rand.Rand) []clone.Message {
	n := r.Intn(api.MaxMessages + 1)
	hundreds := r.Perm(lastYear + 1)
	b := model{stocks: map[int]*held{}}
	var l []clone.Message
	for i := range n {
		year := i * (lastYear + 1) / n
		number := 1 + 100*hundreds[year] + i
		m := randomMessage(r, number, year)
		done := b.does(m)
		for try := 0; try < 20 && !done && i%4 > 0; try++ {
			m = randomMessage(r, number, year)
			done = b.does(m)
		}
		l = append(l, m)
	}
	r.Shuffle(len(l), func(i, j int) { l[i], l[j] = l[j], l[i] })
	return l
}

// eachBook calls a test with random books.
func eachBook(t *testing.T, n int, test func(r *rand.Rand, l []clone.Message)) {
	t.Helper()
	r := rand.New(rand.NewSource(1))
	for range n {
		test(r, randomBook(r))
		if t.Failed() {
			return
		}
	}
}

// eachState calls a test with each stock and year of a book.
func eachState(test func(stock, year int)) {
	for stock := 1; stock <= lastStock; stock++ {
		for year := 0; year <= lastYear; year++ {
			test(stock, year)
		}
	}
}

func mustTell(t *testing.T, l []clone.Message, stock, year int) (s clone.State, was bool) {
	t.Helper()
	s, e := clone.Tell(l, stock, year)
	if e != api.OK && e != api.ErrNone {
		t.Fatalf("Tell of %d after %d of %v: %v", stock, year, l, e)
	}
	return s, e == api.OK
}

func sameState(a, b clone.State) bool {
	return a.There == b.There && sameClones(a, b)
}

func sameClones(a, b clone.State) bool {
	return slices.Equal(a.May, b.May) && slices.Equal(a.Sure, b.Sure)
}

// TestRandomBooks asks whether the random books have what the other tests are
// about at all.
func TestRandomBooks(t *testing.T) {
	var joins, deep, full, orphans, several int
	eachBook(t, 300, func(_ *rand.Rand, l []clone.Message) {
		b := modelAfter(l, lastYear)
		orphans += len(b.orphans)
		for _, m := range b.done {
			if m.Kind == clone.Join {
				joins++
			}
		}
		for _, s := range b.stocks {
			if len(s.may) > 1 && len(s.sure) > 0 {
				several++
			}
			for _, c := range s.may {
				if c.B != 0 {
					deep++
				}
				if c.C != 0 {
					full++
				}
			}
		}
	})
	if min(joins, deep, orphans, several) < 100 || full < 20 {
		t.Errorf("joins %d, sports of sports %d, three sports %d, orphans %d, stocks of several clones %d", joins, deep, full, orphans, several)
	}
}

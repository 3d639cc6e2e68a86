package clone_test

import (
	"math"
	"math/rand"
	"slices"
	"strconv"
	"testing"

	"bybloem/api"
	"bybloem/clone"
)

// book has the messages of the chapter's examples, not in their order.
func book() []clone.Message {
	return []clone.Message{
		offset(7, 1904, 15, 99), seed(1, 1900, 10, 77), offset(5, 1907, 13, 10), offset(2, 1903, 11, 10),
		join(4, 1906, 10, 12), sport(3, 1905, 12, 11, 4), sport(6, 1907, 14, 13, 9),
	}
}

// ladder has three sports one behind the other, a fourth one that cannot be,
// and a stock with clones of which only one can have a sport.
func ladder() []clone.Message {
	return []clone.Message{
		seed(1, 1, 10, 5), sport(2, 2, 11, 10, 1), sport(3, 3, 12, 11, 99), sport(4, 4, 13, 12, 3),
		sport(5, 5, 14, 13, 4), join(6, 6, 10, 13), sport(7, 7, 15, 10, 8), offset(8, 8, 16, 10), sport(9, 9, 17, 16, 7),
	}
}

func many(from, n int) []clone.Message {
	var l []clone.Message
	for i := range n {
		l = append(l, seed(from+i, 1, 1+i, 1))
	}
	return l
}

// valid and invalid messages at the ends of what the chapter allows.
func validMessages() []clone.Message {
	return []clone.Message{
		seed(1, 0, 1, 1), seed(2, 3000, 999, 9999), offset(3, 0, 1, 999), offset(4, 3000, 999, 1),
		sport(5, 0, 1, 2, 1), sport(6, 3000, 999, 998, 99), join(7, 0, 1, 2), join(9999, 3000, 999, 1),
	}
}

func invalidMessages() []clone.Message {
	low, high := math.MinInt, math.MaxInt
	bad := []clone.Message{
		{}, {Number: 1, Kind: clone.Seed, Stock: 1, From: 2, What: 1}, {Number: 1, Kind: clone.Seed, Stock: 1, From: -1, What: 1},
		seed(1, 1, 1, 0), seed(1, 1, 1, 10000), seed(1, 1, 1, -5), seed(1, 1, 1, high), seed(1, 1, 1, low),
		{Number: 1, Kind: 4, Stock: 1, From: 2}, {Number: 1, Kind: 255, Stock: 1, What: 1},
	}
	for _, m := range []clone.Message{seed(1, 1, 1, 1), offset(1, 1, 1, 2), sport(1, 1, 1, 2, 1), join(1, 1, 1, 2)} {
		for _, n := range []int{0, -1, 10000, low, high} {
			bad = append(bad, clone.Message{Number: n, Year: m.Year, Kind: m.Kind, Stock: m.Stock, From: m.From, What: m.What})
		}
		for _, n := range []int{-1, 3001, low, high} {
			bad = append(bad, clone.Message{Number: 1, Year: n, Kind: m.Kind, Stock: m.Stock, From: m.From, What: m.What})
		}
		for _, n := range []int{0, -1, 1000, low, high} {
			bad = append(bad, clone.Message{Number: 1, Year: 1, Kind: m.Kind, Stock: n, From: m.From, What: m.What})
		}
	}
	for _, m := range []clone.Message{offset(1, 1, 5, 2), sport(1, 1, 5, 2, 1), join(1, 1, 5, 2)} {
		for _, n := range []int{0, -1, 1000, 5, low, high} {
			bad = append(bad, clone.Message{Number: 1, Year: 1, Kind: m.Kind, Stock: 5, From: n, What: m.What})
		}
	}
	for _, n := range []int{1, -1, low, high} {
		bad = append(bad, clone.Message{Number: 1, Kind: clone.Offset, Stock: 1, From: 2, What: n}, clone.Message{Number: 1, Kind: clone.Join, Stock: 1, From: 2, What: n})
	}
	for _, n := range []int{0, -1, 100, low, high} {
		bad = append(bad, sport(1, 1, 1, 2, n))
	}
	return bad
}

// P1.1

func TestCheckMessages(t *testing.T) {
	for _, x := range []struct {
		l    []clone.Message
		want api.Errno
	}{
		{nil, api.OK},
		{[]clone.Message{}, api.OK},
		{book(), api.OK},
		{ladder(), api.OK},
		{validMessages(), api.OK},
		{many(1, api.MaxMessages), api.OK},
		{many(1, api.MaxMessages+1), api.ErrLimit},
		// A message counts as often as it stands in the list.
		{slices.Repeat([]clone.Message{seed(1, 1, 1, 1)}, api.MaxMessages), api.OK},
		{slices.Repeat([]clone.Message{seed(1, 1, 1, 1)}, api.MaxMessages+1), api.ErrLimit},
		// The same message twice is one; each difference beside the Number is a contradiction.
		{[]clone.Message{sport(1, 1, 1, 2, 1), sport(1, 1, 1, 2, 1)}, api.OK},
		{[]clone.Message{sport(1, 1, 1, 2, 1), sport(1, 2, 1, 2, 1)}, api.ErrTwice},
		{[]clone.Message{sport(1, 1, 1, 2, 1), sport(1, 1, 3, 2, 1)}, api.ErrTwice},
		{[]clone.Message{sport(1, 1, 1, 2, 1), sport(1, 1, 1, 3, 1)}, api.ErrTwice},
		{[]clone.Message{sport(1, 1, 1, 2, 1), sport(1, 1, 1, 2, 2)}, api.ErrTwice},
		{[]clone.Message{offset(1, 1, 1, 2), join(1, 1, 1, 2)}, api.ErrTwice},
		{[]clone.Message{seed(1, 1, 1, 1), seed(2, 1, 2, 1), seed(1, 1, 1, 1), seed(1, 1, 1, 2)}, api.ErrTwice},
		// The error that the table asks for first.
		{append(many(1, api.MaxMessages), clone.Message{}), api.ErrLimit},
		{append(many(1, api.MaxMessages), seed(1, 1, 1, 2)), api.ErrLimit},
		{[]clone.Message{seed(1, 1, 1, 1), seed(1, 1, 1, 2), {}}, api.ErrArg},
	} {
		if e := clone.CheckMessages(x.l); e != x.want {
			t.Errorf("CheckMessages of %v: %v", x.l, e)
		}
	}
	for _, m := range validMessages() {
		if e := clone.CheckMessages([]clone.Message{m}); e != api.OK {
			t.Errorf("CheckMessages of %v: %v", m, e)
		}
	}
	for _, m := range invalidMessages() {
		if e := clone.CheckMessages([]clone.Message{seed(2, 1, 2, 2), m}); e != api.ErrArg {
			t.Errorf("CheckMessages of %v: %v", m, e)
		}
	}
}

func TestGather(t *testing.T) {
	b := book()
	for _, x := range []struct {
		lists [][]clone.Message
		want  []clone.Message
	}{
		{nil, nil},
		{[][]clone.Message{nil, {}, nil}, nil},
		{[][]clone.Message{b}, []clone.Message{b[1], b[3], b[0], b[5], b[4], b[2], b[6]}},
		{[][]clone.Message{{b[2], b[1]}, nil, {b[1], b[5], b[2], b[1]}}, []clone.Message{b[1], b[5], b[2]}},
		{[][]clone.Message{{b[6]}, {b[2]}, {b[4]}, {b[5]}, {b[0]}, {b[3], b[1]}}, []clone.Message{b[1], b[3], b[0], b[5], b[4], b[2], b[6]}},
		// The year comes before the number.
		{[][]clone.Message{{seed(2, 2, 1, 1), seed(1, 2, 2, 1)}, {seed(3, 1, 3, 1)}}, []clone.Message{seed(3, 1, 3, 1), seed(1, 2, 2, 1), seed(2, 2, 1, 1)}},
	} {
		if l, e := clone.Gather(x.lists); e != api.OK || !slices.Equal(l, x.want) {
			t.Errorf("Gather of %v: %v, %v", x.lists, l, e)
		}
	}
}

func TestGatherErrors(t *testing.T) {
	for _, x := range []struct {
		lists [][]clone.Message
		want  api.Errno
	}{
		{make([][]clone.Message, api.MaxLists), api.OK},
		{make([][]clone.Message, api.MaxLists+1), api.ErrLimit},
		{[][]clone.Message{many(1, 40), many(1, 40), many(1, 40), many(1, 40), many(1, 40), many(1, 40)}, api.OK},
		{[][]clone.Message{many(1, 20), many(21, 20)}, api.OK},
		{[][]clone.Message{many(1, 20), many(21, 21)}, api.ErrLimit},
		{[][]clone.Message{nil, many(1, 41)}, api.ErrLimit},
		{[][]clone.Message{{seed(1, 1, 1, 1)}, {seed(1, 1, 1, 2)}}, api.ErrTwice},
		{[][]clone.Message{{seed(1, 1, 1, 1)}, {{}}}, api.ErrArg},
		// The error that the table asks for first.
		{[][]clone.Message{{{}}, many(1, 41)}, api.ErrLimit},
		{[][]clone.Message{{{}}, nil, nil, nil, nil, nil, nil}, api.ErrLimit},
		{[][]clone.Message{{seed(1, 1, 1, 1)}, {seed(1, 1, 1, 2), {}}}, api.ErrArg},
		{[][]clone.Message{many(1, 40), many(41, 40), {{}}}, api.ErrArg},
		{[][]clone.Message{many(1, 40), many(41, 40), {seed(1, 1, 1, 2)}}, api.ErrTwice},
	} {
		if l, e := clone.Gather(x.lists); e != x.want || e != api.OK && l != nil {
			t.Errorf("Gather of %v: %v, %v", x.lists, l, e)
		}
	}
}

// P1.2

func TestTell(t *testing.T) {
	one := func(c clone.Clone) []clone.Clone { return []clone.Clone{c} }
	for _, x := range []struct {
		l           []clone.Message
		stock, year int
		want        clone.State
	}{
		{book(), 10, 1900, clone.State{There: true, May: one(of(77)), Sure: one(of(77))}},
		{book(), 10, 1906, clone.State{There: true, May: []clone.Clone{of(77), of(77, 4)}, Sure: []clone.Clone{of(77), of(77, 4)}}},
		{book(), 11, 3000, clone.State{There: true, May: one(of(77)), Sure: one(of(77))}},
		{book(), 12, 1905, clone.State{There: true, May: one(of(77, 4)), Sure: one(of(77, 4))}},
		{book(), 12, 1906, clone.State{May: one(of(77, 4)), Sure: one(of(77, 4))}},
		{book(), 13, 1910, clone.State{There: true, May: []clone.Clone{of(77), of(77, 4)}}},
		{book(), 14, 1910, clone.State{There: true, May: []clone.Clone{of(77, 4, 9), of(77, 9)}}},
		{ladder(), 13, 5, clone.State{There: true, May: one(of(5, 1, 99, 3)), Sure: one(of(5, 1, 99, 3))}},
		{ladder(), 10, 6, clone.State{There: true, May: []clone.Clone{of(5), of(5, 1, 99, 3)}, Sure: []clone.Clone{of(5), of(5, 1, 99, 3)}}},
		// Of two clones only one can have one more sport: then it surely is of this one.
		{ladder(), 15, 7, clone.State{There: true, May: one(of(5, 8)), Sure: one(of(5, 8))}},
		{ladder(), 17, 9, clone.State{There: true, May: one(of(5, 7)), Sure: one(of(5, 7))}},
		// What is joined to a stock that may have it already makes it sure.
		{[]clone.Message{seed(1, 0, 1, 1), seed(2, 0, 2, 2), join(3, 0, 1, 2), offset(4, 0, 3, 1), seed(5, 0, 4, 2), join(6, 0, 3, 4)}, 3, 0,
			clone.State{There: true, May: []clone.Clone{of(1), of(2)}, Sure: one(of(2))}},
		// A stock of one clone that is told twice is still of one, and its offsets surely have it.
		{[]clone.Message{seed(1, 0, 1, 1), seed(2, 0, 2, 1), join(3, 0, 1, 2), offset(4, 0, 3, 1)}, 3, 0,
			clone.State{There: true, May: one(of(1)), Sure: one(of(1))}},
		// The order of clones is by Seedling first, then by A, B and C.
		{[]clone.Message{seed(1, 0, 1, 20), seed(2, 0, 2, 3), sport(3, 0, 3, 2, 10), sport(4, 0, 4, 3, 1), sport(5, 0, 5, 2, 9), join(6, 1, 1, 3), join(7, 1, 1, 4), join(8, 1, 1, 2), join(9, 1, 1, 5)}, 1, 1,
			clone.State{There: true, May: []clone.Clone{of(3), of(3, 9), of(3, 10), of(3, 10, 1), of(20)}, Sure: []clone.Clone{of(3), of(3, 9), of(3, 10), of(3, 10, 1), of(20)}}},
		// A stock that is not there any more keeps what it had then.
		{[]clone.Message{seed(1, 0, 1, 1), seed(2, 0, 2, 2), join(3, 1, 1, 2), seed(4, 2, 3, 3), join(5, 2, 1, 3), join(6, 2, 2, 3)}, 2, 2,
			clone.State{May: one(of(2)), Sure: one(of(2))}},
		{validMessages(), 999, 3000, clone.State{There: true, May: []clone.Clone{of(1), of(9999)}, Sure: []clone.Clone{of(1), of(9999)}}},
	} {
		if s, e := clone.Tell(x.l, x.stock, x.year); e != api.OK || !sameState(s, x.want) {
			t.Errorf("Tell of %d after %d of %v: %v, %v", x.stock, x.year, x.l, s, e)
		}
	}
}

func TestTellModel(t *testing.T) {
	eachBook(t, 300, func(_ *rand.Rand, l []clone.Message) {
		for year := 0; year <= lastYear; year++ {
			b := modelAfter(l, year)
			for stock := 1; stock <= lastStock; stock++ {
				s, was := mustTell(t, l, stock, year)
				h := b.stocks[stock]
				if was != (h != nil) || was && !sameState(s, clone.State{There: h.there, May: h.may, Sure: h.sure}) {
					t.Errorf("Tell of %d after %d of %v: %v, %v", stock, year, l, s, was)
				}
			}
		}
	})
}

// P1.3

func TestOrphans(t *testing.T) {
	begun := []clone.Message{seed(1, 1, 1, 3), seed(2, 1, 2, 4), join(3, 2, 1, 2)}
	for _, x := range []struct {
		l    []clone.Message
		want []int
	}{
		{nil, nil},
		{book(), []int{7}},
		{ladder(), []int{5}},
		// In one year the lesser number comes first; the lesser year comes before.
		{[]clone.Message{seed(9, 5, 1, 3), offset(2, 5, 2, 1)}, []int{2}},
		{[]clone.Message{seed(2, 5, 1, 3), offset(9, 5, 2, 1)}, nil},
		{[]clone.Message{seed(9, 4, 1, 3), offset(2, 5, 2, 1)}, nil},
		// A stock begins once, also when it is not there any more.
		{append(begun, seed(9, 3, 1, 3), seed(8, 3, 2, 4), offset(7, 3, 2, 1), sport(6, 3, 2, 1, 5)), []int{6, 7, 8, 9}},
		// Nothing comes from, or to, a stock that is not there any more, or never was.
		{append(begun, offset(9, 3, 5, 2), sport(8, 3, 6, 2, 1), join(7, 3, 1, 2), join(6, 3, 2, 1), join(5, 3, 1, 8), join(4, 3, 8, 1)), []int{4, 5, 6, 7, 8, 9}},
		// What comes from an orphan is one.
		{[]clone.Message{offset(1, 1, 2, 1), offset(2, 2, 3, 2), seed(3, 3, 1, 1)}, []int{1, 2}},
		{[]clone.Message{seed(9, 3000, 1, 1), offset(3, 3000, 2, 1)}, []int{3}},
	} {
		if l, e := clone.Orphans(x.l); e != api.OK || !slices.Equal(l, x.want) {
			t.Errorf("Orphans of %v: %v, %v", x.l, l, e)
		}
	}
	eachBook(t, 300, func(_ *rand.Rand, l []clone.Message) {
		b := modelAfter(l, api.MaxYear)
		if got, e := clone.Orphans(l); e != api.OK || !slices.Equal(got, b.orphans) {
			t.Errorf("Orphans of %v: %v, %v", l, got, e)
		}
	})
}

// P1.4

func TestRests(t *testing.T) {
	for _, x := range []struct {
		l           []clone.Message
		stock, year int
		want        []int
	}{
		{book(), 14, 1910, []int{1, 2, 3, 4, 5, 6}},
		{book(), 11, 1910, []int{1, 2}},
		{book(), 10, 1905, []int{1}},
		{book(), 10, 1906, []int{1, 2, 3, 4}},
		{book(), 12, 1910, []int{1, 2, 3}},
		{ladder(), 15, 9, []int{1, 2, 3, 4, 6, 7}},
		// What was joined to a stock behind an offset of it is not in the offset.
		{[]clone.Message{seed(5, 1, 1, 1), offset(4, 2, 2, 1), seed(3, 2, 3, 3), join(2, 3, 1, 3)}, 2, 9, []int{4, 5}},
		{[]clone.Message{seed(5, 1, 1, 1), offset(4, 2, 2, 1), seed(3, 2, 3, 3), join(2, 3, 1, 3)}, 1, 9, []int{2, 3, 5}},
		// The numbers rise, though the messages come the other way.
		{[]clone.Message{seed(9, 1, 1, 1), offset(8, 2, 2, 1), sport(7, 3, 3, 2, 1)}, 3, 3, []int{7, 8, 9}},
		// An orphan is no message on which a stock rests.
		{[]clone.Message{seed(1, 1, 1, 1), seed(2, 2, 1, 2), join(3, 2, 1, 9), offset(4, 3, 2, 1)}, 2, 3, []int{1, 4}},
	} {
		if l, e := clone.Rests(x.l, x.stock, x.year); e != api.OK || !slices.Equal(l, x.want) {
			t.Errorf("Rests of %d after %d of %v: %v, %v", x.stock, x.year, x.l, l, e)
		}
	}
	eachBook(t, 300, func(_ *rand.Rand, l []clone.Message) {
		eachState(func(stock, year int) {
			b := modelAfter(l, year)
			got, e := clone.Rests(l, stock, year)
			if b.stocks[stock] == nil && e != api.ErrNone || b.stocks[stock] != nil && !slices.Equal(got, b.restsOn(stock)) {
				t.Errorf("Rests of %d after %d of %v: %v, %v", stock, year, l, got, e)
			}
		})
	})
}

// P1.5

func TestHeirs(t *testing.T) {
	for _, x := range []struct {
		l               []clone.Message
		c               clone.Clone
		year            int
		surely, perhaps []int
	}{
		{book(), of(77, 4), 1910, []int{10}, []int{10, 13}},
		{book(), of(77), 1910, []int{10, 11}, []int{10, 11, 13}},
		{book(), of(77, 4), 1905, []int{12}, []int{12}},
		{book(), of(77, 9), 1910, nil, []int{14}},
		{book(), of(77, 4, 9), 1910, nil, []int{14}},
		{book(), of(77, 5), 1910, nil, nil},
		{book(), of(78), 1910, nil, nil},
		{book(), of(77), 0, nil, nil},
		{nil, of(9999, 99, 99, 99), 3000, nil, nil},
		{[]clone.Message{seed(1, 0, 999, 1), seed(2, 0, 2, 1), seed(3, 0, 30, 1)}, of(1), 0, []int{2, 30, 999}, []int{2, 30, 999}},
	} {
		surely, perhaps, e := clone.Heirs(x.l, x.c, x.year)
		if e != api.OK || !slices.Equal(surely, x.surely) || !slices.Equal(perhaps, x.perhaps) {
			t.Errorf("Heirs of %v after %d: %v, %v, %v", x.c, x.year, surely, perhaps, e)
		}
	}
}

// Errors of the calls, by the table.

func TestMessageErrors(t *testing.T) {
	calls := map[string]func(l []clone.Message) (empty bool, e api.Errno){
		"Gather": func(l []clone.Message) (bool, api.Errno) {
			g, e := clone.Gather([][]clone.Message{nil, l})
			return g == nil, e
		},
		"Tell": func(l []clone.Message) (bool, api.Errno) {
			s, e := clone.Tell(l, 0, -1)
			return !s.There && s.May == nil && s.Sure == nil, e
		},
		"Orphans": func(l []clone.Message) (bool, api.Errno) {
			o, e := clone.Orphans(l)
			return o == nil, e
		},
		"Rests": func(l []clone.Message) (bool, api.Errno) {
			r, e := clone.Rests(l, 0, -1)
			return r == nil, e
		},
		"Heirs": func(l []clone.Message) (bool, api.Errno) {
			surely, perhaps, e := clone.Heirs(l, clone.Clone{}, -1)
			return surely == nil && perhaps == nil, e
		},
		"Write": func(l []clone.Message) (bool, api.Errno) {
			b, e := clone.Write(l)
			return b == nil, e
		},
	}
	for name, call := range calls {
		for _, x := range []struct {
			l    []clone.Message
			want api.Errno
		}{
			{append(many(1, 40), clone.Message{}), api.ErrLimit},
			{[]clone.Message{seed(1, 1, 1, 1), seed(1, 1, 1, 2), {}}, api.ErrArg},
			{[]clone.Message{seed(1, 1, 1, 1), seed(1, 1, 1, 2)}, api.ErrTwice},
		} {
			if empty, e := call(x.l); e != x.want || !empty {
				t.Errorf("%s of %v: %v, nothing beside it: %v", name, x.l, e, empty)
			}
		}
	}
}

func TestStockErrors(t *testing.T) {
	for _, x := range []struct {
		stock, year int
		want        api.Errno
	}{
		{10, 1899, api.ErrNone}, {11, 1902, api.ErrNone}, {15, 1910, api.ErrNone}, {99, 3000, api.ErrNone}, {1, 0, api.ErrNone}, {999, 3000, api.ErrNone},
		{0, 1910, api.ErrRange}, {1000, 1910, api.ErrRange}, {10, -1, api.ErrRange}, {10, 3001, api.ErrRange}, {-1, 1910, api.ErrRange},
		{math.MinInt, 1910, api.ErrRange}, {math.MaxInt, 1910, api.ErrRange}, {10, math.MinInt, api.ErrRange}, {10, math.MaxInt, api.ErrRange},
		{99, 3001, api.ErrRange},
	} {
		if s, e := clone.Tell(book(), x.stock, x.year); e != x.want || s.There || s.May != nil || s.Sure != nil {
			t.Errorf("Tell of %d after %d: %v, %v", x.stock, x.year, s, e)
		}
		if l, e := clone.Rests(book(), x.stock, x.year); e != x.want || l != nil {
			t.Errorf("Rests of %d after %d: %v, %v", x.stock, x.year, l, e)
		}
	}
}

func TestHeirsErrors(t *testing.T) {
	for _, c := range []clone.Clone{
		{}, {Seedling: -1}, {Seedling: 10000}, {Seedling: math.MaxInt}, {Seedling: math.MinInt}, {Seedling: 1, A: -1}, {Seedling: 1, A: 100},
		{Seedling: 1, A: 1, B: 100}, {Seedling: 1, A: 1, B: -1}, {Seedling: 1, A: 1, B: 1, C: 100}, {Seedling: 1, A: 1, B: 1, C: -1},
		{Seedling: 1, B: 2}, {Seedling: 1, C: 2}, {Seedling: 1, B: 2, C: 2}, {Seedling: 1, A: 1, C: 2}, {A: 1}, {Seedling: 1, A: math.MaxInt},
	} {
		for _, year := range []int{-1, 1910} {
			if surely, perhaps, e := clone.Heirs(book(), c, year); e != api.ErrArg || surely != nil || perhaps != nil {
				t.Errorf("Heirs of %v after %d: %v", c, year, e)
			}
		}
	}
	for _, year := range []int{-1, 3001, math.MinInt, math.MaxInt} {
		if surely, perhaps, e := clone.Heirs(book(), of(77), year); e != api.ErrRange || surely != nil || perhaps != nil {
			t.Errorf("Heirs after %d: %v", year, e)
		}
	}
}

// P1.6

func TestWrite(t *testing.T) {
	for _, x := range []struct {
		l    []clone.Message
		want string
	}{
		{nil, ""},
		{[]clone.Message{book()[5], book()[1]}, "1 1900 seed 10 77\n3 1905 sport 12 11 4\n"},
		{append(book(), book()...), "1 1900 seed 10 77\n2 1903 offset 11 10\n7 1904 offset 15 99\n3 1905 sport 12 11 4\n4 1906 join 10 12\n5 1907 offset 13 10\n6 1907 sport 14 13 9\n"},
		{validMessages(), "1 0 seed 1 1\n3 0 offset 1 999\n5 0 sport 1 2 1\n7 0 join 1 2\n2 3000 seed 999 9999\n4 3000 offset 999 1\n6 3000 sport 999 998 99\n9999 3000 join 999 1\n"},
	} {
		if b, e := clone.Write(x.l); e != api.OK || string(b) != x.want {
			t.Errorf("Write of %v: %q, %v", x.l, b, e)
		}
	}
}

func TestRead(t *testing.T) {
	text := "3 0 join 1 2\n1 7 seed 10 77\n2 7 offset 11 10\n4 3000 sport 12 11 4\n"
	want := []clone.Message{join(3, 0, 1, 2), seed(1, 7, 10, 77), offset(2, 7, 11, 10), sport(4, 3000, 12, 11, 4)}
	if l, e := clone.Read([]byte(text)); e != api.OK || !slices.Equal(l, want) {
		t.Errorf("Read: %v, %v", l, e)
	}
	for _, nothing := range [][]byte{nil, {}} {
		if l, e := clone.Read(nothing); e != api.OK || len(l) != 0 {
			t.Errorf("Read of nothing: %v, %v", l, e)
		}
	}
	forty, e := clone.Write(many(1, 40))
	if l, f := clone.Read(forty); e != api.OK || f != api.OK || !slices.Equal(l, many(1, 40)) {
		t.Errorf("Read of forty messages: %v, %v, %v", l, e, f)
	}
	if l, e := clone.Read(append(forty, "41 1 seed 41 1\n"...)); e != api.ErrForm || l != nil {
		t.Errorf("Read of one message more: %v, %v", l, e)
	}
}

func TestReadErrors(t *testing.T) {
	good := "1 1900 seed 10 77\n"
	for _, bad := range []string{
		"1 1900 seed 10 77", "\n", good + "\n", "\n" + good, good + "2", "1 1900 seed 10 77 \n", " " + good, "1  1900 seed 10 77\n", "1\t1900 seed 10 77\n", "1 1900 seed 10 77\r\n", good + "\x00",
		"1 1900 seed 10\n", "1 1900 seed\n", "1 1900\n", "1\n", "1 1900 seed 10 77 0\n", "1 1900 seed 10 0 77\n", "1 1900 seed 10 77 77\n", "1 1900 seed 10 5 77\n",
		"01 1900 seed 10 77\n", "+1 1900 seed 10 77\n", "-1 1900 seed 10 77\n", "1 -0 seed 10 77\n", "1 00 seed 10 77\n", "1 1_9 seed 10 77\n", "0x1 1900 seed 10 77\n", "1 1900 seed 10 077\n", "1 1900 seed 10 7 7\n", "1 1900 seed 10 x\n",
		"1 1900 Seed 10 77\n", "1 1900 0 10 77\n", "1 1900 seeds 10 77\n", "1 1900  10 77\n", "seed 1 1900 10 77\n",
		"0 1900 seed 10 77\n", "10000 1900 seed 10 77\n", "1 3001 seed 10 77\n", "1 1900 seed 0 77\n", "1 1900 seed 1000 77\n", "1 1900 seed 10 0\n", "1 1900 seed 10 10000\n", "99999999999999999999 1900 seed 10 77\n",
		"1 1900 offset 10 10\n", "1 1900 offset 10 0\n", "1 1900 offset 10\n", "1 1900 offset 10 11 0\n", "1 1900 offset 10 11 5\n", "1 1900 offset 10 1000\n",
		"1 1900 sport 10 11\n", "1 1900 sport 10 11 0\n", "1 1900 sport 10 11 100\n", "1 1900 sport 10 10 1\n", "1 1900 sport 10 0 1\n", "1 1900 sport 10 11 1 1\n",
		"1 1900 join 10 11 5\n", "1 1900 join 10 11 0\n", "1 1900 join 10 10\n", "1 1900 join 10\n",
		// Messages that are not in their order, not once, or contradict each other.
		good + good, "2 1900 seed 10 77\n1 1900 seed 11 77\n", "1 1901 seed 10 77\n2 1900 seed 11 77\n", good + "1 1901 seed 11 77\n", good + "1 1900 seed 11 77\n",
	} {
		if l, e := clone.Read([]byte(bad)); e != api.ErrForm || l != nil {
			t.Errorf("Read of %q: %v, %v", bad, l, e)
		}
	}
	for _, x := range []struct {
		n    int
		want api.Errno
	}{{api.MaxRegister, api.ErrForm}, {api.MaxRegister + 1, api.ErrLimit}} {
		for _, b := range [][]byte{make([]byte, x.n), slices.Repeat([]byte("\n"), x.n), slices.Repeat([]byte(" "), x.n), []byte(slices.Repeat([]byte(good), 200))[:x.n]} {
			if l, e := clone.Read(b); e != x.want || l != nil {
				t.Errorf("Read of %d bytes: %v, %v", x.n, l, e)
			}
		}
	}
}

// Rules R3 and R4: arguments stay as they are, and results are memory of their own.

func TestMemory(t *testing.T) {
	l := append(book(), book()[0])
	before := slices.Clone(l)
	lists := [][]clone.Message{l[:3], l[3:]}
	text := []byte("1 1900 seed 10 77\n")
	g, _ := clone.Gather(lists)
	clone.CheckMessages(l)
	clone.Tell(l, 10, 1910)
	clone.Orphans(l)
	clone.Rests(l, 14, 1910)
	clone.Heirs(l, of(77), 1910)
	clone.Write(l)
	clone.Read(text)
	for i := range g {
		g[i] = clone.Message{}
	}
	if !slices.Equal(l, before) || string(text) != "1 1900 seed 10 77\n" || !slices.Equal(lists[0], before[:3]) || !slices.Equal(lists[1], before[3:]) {
		t.Errorf("changed to %v", l)
	}
	sorted, _ := clone.Gather([][]clone.Message{before})
	again, _ := clone.Gather([][]clone.Message{sorted})
	again[0] = clone.Message{}
	if sorted[0] == again[0] {
		t.Error("the result of Gather shares memory with its argument")
	}
	s, _ := clone.Tell(l, 10, 1910)
	s.May[0] = clone.Clone{}
	s.Sure = append(s.Sure[:1], of(1))
	if s.Sure[0] != of(77) || s.May[1] != of(77, 4) {
		t.Error("the lists of a state share memory")
	}
	surely, perhaps, _ := clone.Heirs(l, of(77, 4), 1910)
	surely[0] = 0
	if perhaps[0] != 10 {
		t.Error("the lists of heirs share memory")
	}
}

func TestEmptyLists(t *testing.T) {
	empty := []clone.Message{}
	if b, e := clone.Write(empty); len(b) != 0 || e != api.OK {
		t.Errorf("Write of nothing: %q, %v", b, e)
	}
	if l, e := clone.Orphans(empty); len(l) != 0 || e != api.OK {
		t.Errorf("Orphans of nothing: %v, %v", l, e)
	}
	if _, e := clone.Tell(empty, 1, 1); e != api.ErrNone {
		t.Errorf("Tell of nothing: %v", e)
	}
	if l, e := clone.Gather([][]clone.Message{}); len(l) != 0 || e != api.OK {
		t.Errorf("Gather of nothing: %v, %v", l, e)
	}
}

// TestManyClones has a book whose stock may have as many clones as messages can
// make: the calls end, and count all of them.
func TestManyClones(t *testing.T) {
	l := []clone.Message{seed(1, 0, 1, 1)}
	for i := range 19 {
		l = append(l, sport(2+2*i, 1, 2+i, 1, 1+i), join(3+2*i, 1, 1, 2+i))
	}
	s, e := clone.Tell(l, 1, 1)
	// 19 sports, any three at most, in the order in which they came up.
	if want := 1 + 19 + 19*18/2 + 19*18*17/6; e != api.OK || len(s.May) != want {
		t.Errorf("clones: %s, %v", strconv.Itoa(len(s.May)), e)
	}
}

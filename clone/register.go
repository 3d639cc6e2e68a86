package clone

import (
	"cmp"
	"slices"
)

// stock is a stock that is there, or was.
type stock struct {
	number    int
	there     bool
	may, sure clones
}

// stocks has all stocks that are there, or were, by rising number.
type stocks struct{ list []stock }

// find returns the index of a stock or, if it never was, the one where it belongs.
func (s *stocks) find(number int) (at int, was bool) {
search:
	for at < len(s.list) {
		switch cmp.Compare(s.list[at].number, number) {
		case -1:
			at++
		case 0:
			was = true
			break search
		case 1:
			break search
		}
	}
	return at, was
}

// had returns what a stock may have if it is there, and otherwise nothing.
func (s *stocks) had(number int) clones {
	at, was := s.find(number)
	if !was || !s.list[at].there {
		return nil
	}
	return s.list[at].may
}

// begin makes a new stock of some of the clones. There must be one at least,
// and the stock must never have been.
func (s *stocks) begin(number int, may clones) bool {
	at, was := s.find(number)
	if was || len(may) == 0 {
		return false
	}
	s.list = slices.Insert(s.list, at, stock{number: number, there: true, may: may, sure: may.sure()})
	return true
}

// register is the register at work: its stocks, and what became of the messages
// that came, in their order.
type register struct {
	stocks
	done, orphans []Message
}

// registerAfter returns the register to which the messages up to the year have
// come.
func registerAfter(l []Message, year int) register {
	var r register
	done, orphans := split(upTo(l, year), r.does)
	r.done, r.orphans = done, orphans
	return r
}

// does lets a message come, and tells whether it was done.
func (r *register) does(m Message) bool {
	all := kinds()
	return all[m.Kind].do(r, m)
}

func (r *register) seed(m Message) bool {
	return r.begin(m.Stock, clones{{Seedling: m.What}: true})
}

func (r *register) offset(m Message) bool {
	return r.begin(m.Stock, r.had(m.From))
}

func (r *register) sport(m Message) bool {
	return r.begin(m.Stock, r.had(m.From).sports(m.What))
}

// join leaves the clones of From as they were: they are told of it ever after.
func (r *register) join(m Message) bool {
	to, toWas := r.find(m.Stock)
	from, fromWas := r.find(m.From)
	if !toWas || !fromWas || !r.list[to].there || !r.list[from].there {
		return false
	}
	into, gone := &r.list[to], &r.list[from]
	into.may = union(into.may, gone.may)
	into.sure = union(into.sure, gone.sure)
	gone.there = false
	return true
}

// restsOf returns those of the done messages on which a stock rests. They are
// searched from the last one back, as a stock rests on what was joined to it
// only from then on.
func restsOf(done []Message, stock int) []Message {
	set := map[int]bool{stock: true}
	isFound := func(m Message) bool {
		if !set[m.Stock] {
			return false
		}
		if m.Kind != Join {
			delete(set, m.Stock)
		}
		if m.Kind != Seed {
			set[m.From] = true
		}
		return true
	}
	var found []Message
	for _, m := range slices.Backward(done) {
		if isFound(m) {
			found = append(found, m)
		}
	}
	return found
}

package grower

import (
	"slices"
	"strconv"
	"strings"

	"bybloem/api"
	"bybloem/clone"
	"bybloem/label"
	"bybloem/polder"
)

// report returns the report of the state.
func (s State) report() string {
	return s.reportStocks() + lineOf("left", text(s.left())) + s.reportLot() + s.reportWater()
}

func (s State) reportStocks() string {
	lines := ""
	for _, stock := range s.stocks() {
		told, e := clone.Tell(s.Messages, stock, api.MaxYear)
		if e == api.OK && told.There {
			lines += lineOf("stock", text(stock), "clones", text(len(told.May)), "sure", text(len(told.Sure)))
		}
	}
	orphans, _ := clone.Orphans(s.Messages) // The messages of a state are valid.
	return lines + lineOf("orphans", text(len(orphans)))
}

// stocks returns the stocks that there may be, rising.
func (s State) stocks() []int {
	var all []int
	for _, m := range s.Messages {
		all = append(all, m.Stock)
	}
	slices.Sort(all)
	return slices.Compact(all)
}

// left returns how many bulbs more are licensed than were used.
func (s State) left() int {
	bulbs := 0
	for _, l := range s.Licences {
		bulbs += l.Bulbs
	}
	for _, u := range s.Uses {
		bulbs -= u.Bulbs
	}
	return bulbs
}

func (s State) reportLot() string {
	lines := ""
	ranges, _ := label.Count(s.Lot) // The lot can be, or has no kinds, of which there are no ranges then.
	for kind, r := range ranges {
		lines += lineOf("kind", text(kind), text(r.Lo)+".."+text(r.Hi))
	}
	sold := 0
	for _, sale := range s.Sales {
		sold += sale.Plants
	}
	return lines + lineOf("sold", text(sold))
}

func (s State) reportWater() string {
	p := s.Polder
	line := lineOf("water", text(p.Start.Lo), "days", text(len(p.Days)), "paid", text(s.Paid))
	cost, e := polder.Least(p) // Without days it is no polder, and has no cost either.
	if e != api.OK {
		return line
	}
	return line + lineOf("cost", text(cost))
}

// lineOf returns the line of the words.
func lineOf(words ...string) string { return strings.Join(words, " ") + "\n" }

func text(n int) string { return strconv.Itoa(n) }

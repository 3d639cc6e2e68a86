package grower

import (
	"slices"

	"bybloem/api"
	"bybloem/clone"
	"bybloem/label"
	"bybloem/polder"
	"bybloem/right"
)

// task is how many numbers a line of a word has, and what does it.
type task struct {
	numbers int
	do      func(s *session, numbers []int)
}

// tasks returns the tasks by their words.
func tasks() map[string]task {
	return map[string]task{
		"seed":    {4, (*session).seed},
		"offset":  {4, (*session).offset},
		"sport":   {5, (*session).sport},
		"join":    {4, (*session).join},
		"licence": {4, (*session).licence},
		"use":     {3, (*session).use},
		"kind":    {traits, (*session).kind},
		"part":    {1, (*session).part},
		"look":    {2 + api.MaxLooks, (*session).look},
		"sell":    {2, (*session).sell},
		"polder":  {5, (*session).polder},
		"day":     {5, (*session).day},
		"rain":    {1, (*session).rain},
	}
}

// traits is how many traits the kinds of a grower's lot have.
const traits = 2

func (s *session) seed(n []int) {
	s.tell(clone.Message{Number: n[0], Year: n[1], Kind: clone.Seed, Stock: n[2], What: n[3]})
}

func (s *session) offset(n []int) {
	s.tell(clone.Message{Number: n[0], Year: n[1], Kind: clone.Offset, Stock: n[2], From: n[3]})
}

func (s *session) sport(n []int) {
	s.tell(clone.Message{Number: n[0], Year: n[1], Kind: clone.Sport, Stock: n[2], From: n[3], What: n[4]})
}

func (s *session) join(n []int) {
	s.tell(clone.Message{Number: n[0], Year: n[1], Kind: clone.Join, Stock: n[2], From: n[3]})
}

// tell adds the message. The register takes the same one twice, a session does not.
func (s *session) tell(m clone.Message) {
	need(!slices.Contains(s.Messages, m), api.ErrTwice)
	messages := with(s.Messages, m)
	pass(clone.CheckMessages(messages))
	s.Messages, s.told = messages, with(s.told, len(s.errors))
}

func (s *session) licence(n []int) {
	licences := with(s.Licences, right.Licence{Variety: n[0], From: n[1], To: n[2], Bulbs: n[3]})
	_, _, e := right.Share(licences, s.Uses)
	pass(e)
	s.Licences = licences
}

func (s *session) use(n []int) {
	uses := with(s.Uses, right.Use{Variety: n[0], Day: n[1], Bulbs: n[2]})
	_, shortage, e := right.Share(s.Licences, uses)
	pass(e)
	need(shortage == 0, api.ErrDebt)
	s.Uses = uses
}

func (s *session) kind(n []int) {
	need(len(s.Lot.Parts) == 0, api.ErrState)
	lot := s.Lot
	lot.Looks = with(lot.Looks, n)
	pass(label.CheckLot(lot))
	s.Lot = lot
}

func (s *session) part(n []int) {
	need(len(s.Lot.Looks) > 0, api.ErrState)
	lot := s.Lot
	lot.Parts = with(lot.Parts, label.Part{Plants: n[0], Seen: make([][]int, traits)})
	pass(label.CheckLot(lot))
	s.Lot = lot
}

// look stands for what was seen before of the part, by this trait.
func (s *session) look(n []int) {
	part, trait, seen := n[0], n[1], n[2:]
	need(isIndex(part, s.Lot.Parts) && isIndex(trait, s.Lot.Parts[part].Seen), api.ErrRange)
	lot := s.Lot
	lot.Parts = slices.Clone(lot.Parts)
	looked := &lot.Parts[part]
	looked.Seen = slices.Clone(looked.Seen)
	looked.Seen[trait] = seen
	_, e := label.Count(lot) // It asks what CheckLot asks, and then whether the lot can be.
	pass(e)
	s.Lot = lot
}

func (s *session) sell(n []int) {
	kind, pure := n[0], n[1]
	need(len(s.Lot.Parts) > 0, api.ErrState)
	need(isIndex(kind, s.Lot.Looks), api.ErrRange)
	surely, _, e := label.Bears(s.Lot, pure)
	pass(e)
	need(slices.Contains(surely, kind), api.ErrName)
	plants := 0
	for _, p := range s.Lot.Parts {
		plants += p.Plants
	}
	s.Sales = with(s.Sales, Sale{Kind: kind, Plants: plants})
	s.Lot.Parts = nil
}

func (s *session) polder(n []int) {
	need(len(s.Polder.Days) == 0, api.ErrState)
	p := polder.Polder{Low: n[0], High: n[1], Start: polder.Range{Lo: n[2], Hi: n[2]}, Pump: n[3], Inlet: n[4]}
	tried := p
	tried.Days = make([]polder.Day, 1) // A polder without days is none, whatever else it has.
	pass(polder.CheckPolder(tried))
	s.Polder = p
}

func (s *session) day(n []int) {
	p := s.Polder
	p.Days = with(p.Days, polder.Day{Rain: polder.Range{Lo: n[0], Hi: n[1]}, Seep: n[2], Out: n[3], In: n[4]})
	pass(polder.CheckPolder(p))
	s.Polder = p
}

func (s *session) rain(n []int) {
	fell, p := n[0], s.Polder
	need(len(p.Days) > 0, api.ErrState)
	today := p.Days[0]
	need(today.Rain.Lo <= fell && fell <= today.Rain.Hi, api.ErrRange)
	amount, _, e := polder.Best(p, 0, p.Start.Lo)
	pass(e)
	level := p.Start.Lo + fell - today.Seep - amount
	p.Start = polder.Range{Lo: level, Hi: level}
	p.Days = slices.Clone(p.Days[1:])
	s.Polder = p
	s.Paid += price(today, amount)
}

// price returns what it costs to move the amount on the day.
func price(d polder.Day, amount int) int {
	if amount < 0 {
		return -amount * d.In
	}
	return amount * d.Out
}

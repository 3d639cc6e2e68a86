package grower_test

import (
	"fmt"
	"math/rand"
	"regexp"
	"slices"
	"strconv"
	"strings"
	"testing"

	"bybloem/api"
	"bybloem/clone"
	"bybloem/grower"
	"bybloem/label"
	"bybloem/polder"
	"bybloem/right"
)

// The model does a line as the chapter tells it. What other layers tell of it, it
// finds by looking at all uses that may lack, all truths of a part, and all rain.
// Random sessions, always the same ones, are done by both.

// numbers is how many numbers the lines of each word have.
var numbers = map[string]int{
	"seed": 4, "offset": 4, "sport": 5, "join": 4, "licence": 4, "use": 3, "kind": 2,
	"part": 1, "look": 6, "sell": 2, "polder": 5, "day": 5, "rain": 1,
}

var form = regexp.MustCompile(`^[a-z]+( (0|-?[1-9][0-9]{0,8}))*$`)

// model is a session of the model.
type model struct {
	grower.State
	errors []api.Errno
	lines  map[int]int // of the Numbers of messages
}

func modelRun(lines []string) *model {
	m := &model{lines: map[int]int{}}
	for _, line := range lines {
		m.enter(line)
	}
	return m
}

func (m *model) enter(line string) api.Errno {
	e := m.do(line)
	m.errors = append(m.errors, e)
	return e
}

func (m *model) do(line string) api.Errno {
	words := strings.Split(line, " ")
	count, known := numbers[words[0]]
	if !form.MatchString(line) || !known || len(words) != count+1 {
		return api.ErrForm
	}
	var n []int
	for _, word := range words[1:] {
		x, _ := strconv.Atoi(word)
		n = append(n, x)
	}
	switch words[0] {
	case "licence":
		return m.licence(right.Licence{Variety: n[0], From: n[1], To: n[2], Bulbs: n[3]})
	case "use":
		return m.use(right.Use{Variety: n[0], Day: n[1], Bulbs: n[2]})
	case "kind", "part", "look", "sell":
		return m.lot(words[0], n)
	case "polder", "day", "rain":
		return m.water(words[0], n)
	}
	return m.message(modelMessage(words[0], n))
}

func modelMessage(word string, n []int) clone.Message {
	x := clone.Message{Number: n[0], Year: n[1], Stock: n[2], From: n[3]}
	switch word {
	case "seed":
		x.From, x.What = 0, n[3]
	case "offset":
		x.Kind = clone.Offset
	case "sport":
		x.Kind, x.What = clone.Sport, n[4]
	case "join":
		x.Kind = clone.Join
	}
	return x
}

// lineTold is the line of a message.
func lineTold(x clone.Message) string {
	switch x.Kind {
	case clone.Seed:
		return fmt.Sprintf("seed %d %d %d %d", x.Number, x.Year, x.Stock, x.What)
	case clone.Offset:
		return fmt.Sprintf("offset %d %d %d %d", x.Number, x.Year, x.Stock, x.From)
	case clone.Sport:
		return fmt.Sprintf("sport %d %d %d %d %d", x.Number, x.Year, x.Stock, x.From, x.What)
	}
	return fmt.Sprintf("join %d %d %d %d", x.Number, x.Year, x.Stock, x.From)
}

func has(low, high int, all ...int) bool {
	return slices.Min(all) >= low && slices.Max(all) <= high
}

func isMessage(x clone.Message) bool {
	if !has(1, 9999, x.Number) || !has(0, 3000, x.Year) || !has(1, 999, x.Stock) {
		return false
	}
	if x.Kind == clone.Seed {
		return has(1, 9999, x.What)
	}
	return has(1, 999, x.From) && x.From != x.Stock && (x.Kind != clone.Sport || has(1, 99, x.What))
}

func (m *model) message(x clone.Message) api.Errno {
	switch _, is := m.lines[x.Number]; {
	case slices.Contains(m.Messages, x):
		return api.ErrTwice
	case len(m.Messages) == 40:
		return api.ErrLimit
	case !isMessage(x):
		return api.ErrArg
	case is:
		return api.ErrTwice
	}
	m.Messages = append(m.Messages, x)
	m.lines[x.Number] = len(m.errors)
	return api.OK
}

func (m *model) licence(l right.Licence) api.Errno {
	switch {
	case len(m.Licences) == 12:
		return api.ErrLimit
	case !has(0, 99, l.Variety) || !has(0, 100000, l.From, l.To) || l.From > l.To || !has(0, 1000000, l.Bulbs):
		return api.ErrArg
	}
	m.Licences = append(m.Licences, l)
	return api.OK
}

func (m *model) use(u right.Use) api.Errno {
	switch {
	case len(m.Uses) == 12:
		return api.ErrLimit
	case !has(0, 99, u.Variety) || !has(0, 100000, u.Day) || !has(0, 1000000, u.Bulbs):
		return api.ErrArg
	case modelShortage(m.Licences, append(slices.Clone(m.Uses), u)) > 0:
		return api.ErrDebt
	}
	m.Uses = append(m.Uses, u)
	return api.OK
}

// modelShortage is the greatest lack of any of the uses.
func modelShortage(licences []right.Licence, uses []right.Use) int {
	most := 0
	for some := range 1 << len(uses) {
		lack := 0
		covered := make([]bool, len(licences))
		for n, u := range uses {
			if some>>n&1 == 0 {
				continue
			}
			lack += u.Bulbs
			for i, l := range licences {
				covered[i] = covered[i] || l.Variety == u.Variety && l.From <= u.Day && u.Day <= l.To
			}
		}
		for i, l := range licences {
			if covered[i] {
				lack -= l.Bulbs
			}
		}
		most = max(most, lack)
	}
	return most
}

func (m *model) lot(word string, n []int) api.Errno {
	switch word {
	case "kind":
		return m.kind(n)
	case "part":
		return m.part(n[0])
	case "look":
		return m.look(n[0], n[1], n[2:])
	}
	return m.sell(n[0], n[1])
}

func (m *model) kind(looks []int) api.Errno {
	same := func(other []int) bool { return slices.Equal(looks, other) }
	switch {
	case len(m.Lot.Parts) > 0:
		return api.ErrState
	case len(m.Lot.Looks) == 5 || !has(0, 3, looks...) || slices.ContainsFunc(m.Lot.Looks, same):
		return api.ErrArg
	}
	m.Lot.Looks = append(m.Lot.Looks, looks)
	return api.OK
}

func (m *model) part(plants int) api.Errno {
	switch {
	case len(m.Lot.Looks) == 0:
		return api.ErrState
	case len(m.Lot.Parts) == 4:
		return api.ErrLimit
	case !has(0, 20, plants):
		return api.ErrArg
	}
	m.Lot.Parts = append(m.Lot.Parts, label.Part{Plants: plants, Seen: [][]int{nil, nil}})
	return api.OK
}

func (m *model) look(part, trait int, seen []int) api.Errno {
	if !has(0, len(m.Lot.Parts)-1, part) || !has(0, 1, trait) {
		return api.ErrRange
	}
	p := &m.Lot.Parts[part]
	if slices.Min(seen) < 0 || seen[0]+seen[1]+seen[2]+seen[3] != p.Plants {
		return api.ErrArg
	}
	before := p.Seen[trait]
	p.Seen[trait] = seen
	if len(modelMixes(m.Lot, *p)) == 0 {
		p.Seen[trait] = before
		return api.ErrFail
	}
	return api.OK
}

func (m *model) sell(kind, pure int) api.Errno {
	switch {
	case len(m.Lot.Parts) == 0:
		return api.ErrState
	case !has(0, len(m.Lot.Looks)-1, kind) || !has(1, 1000, pure):
		return api.ErrRange
	case modelRange(m.Lot, kind).Lo*1000 < pure*plantsOf(m.Lot):
		return api.ErrName
	}
	m.Sales = append(m.Sales, grower.Sale{Kind: kind, Plants: plantsOf(m.Lot)})
	m.Lot.Parts = nil
	return api.OK
}

func plantsOf(l label.Lot) int {
	plants := 0
	for _, p := range l.Parts {
		plants += p.Plants
	}
	return plants
}

// modelMixes are all truths of a part.
func modelMixes(l label.Lot, p label.Part) [][]int {
	var all [][]int
	mix := make([]int, len(l.Looks))
	var choose func(kind, rest int)
	choose = func(kind, rest int) {
		if kind == len(mix)-1 {
			mix[kind] = rest
			if modelFits(l, p, mix) {
				all = append(all, slices.Clone(mix))
			}
			return
		}
		for mix[kind] = 0; mix[kind] <= rest; mix[kind]++ {
			choose(kind+1, rest-mix[kind])
		}
	}
	choose(0, p.Plants)
	return all
}

func modelFits(l label.Lot, p label.Part, mix []int) bool {
	for trait, seen := range p.Seen {
		if len(seen) > 0 && !slices.Equal(seen, modelSeen(l, trait, mix)) {
			return false
		}
	}
	return true
}

// modelSeen is how many plants of the mix have each look.
func modelSeen(l label.Lot, trait int, mix []int) []int {
	seen := make([]int, 4)
	for kind, n := range mix {
		seen[l.Looks[kind][trait]] += n
	}
	return seen
}

// modelRange is the range of the kind.
func modelRange(l label.Lot, kind int) label.Range {
	var sum label.Range
	for _, p := range l.Parts {
		var all []int
		for _, mix := range modelMixes(l, p) {
			all = append(all, mix[kind])
		}
		sum.Lo += slices.Min(all)
		sum.Hi += slices.Max(all)
	}
	return sum
}

func (m *model) water(word string, n []int) api.Errno {
	p := &m.Polder
	switch word {
	case "polder":
		if len(p.Days) > 0 {
			return api.ErrState
		}
		if !has(0, 60, n[0], n[1], n[2]) || n[0] > n[2] || n[2] > n[1] || !has(0, 20, n[3], n[4]) {
			return api.ErrArg
		}
		*p = polder.Polder{Low: n[0], High: n[1], Start: polder.Range{Lo: n[2], Hi: n[2]}, Pump: n[3], Inlet: n[4]}
		return api.OK
	case "day":
		if len(p.Days) == 12 {
			return api.ErrLimit
		}
		if !has(0, 30, n[0], n[1], n[2]) || n[0] > n[1] || !has(0, 100, n[3], n[4]) {
			return api.ErrArg
		}
		p.Days = append(p.Days, polder.Day{Rain: polder.Range{Lo: n[0], Hi: n[1]}, Seep: n[2], Out: n[3], In: n[4]})
		return api.OK
	}
	return m.rain(n[0])
}

func (m *model) rain(rain int) api.Errno {
	p := &m.Polder
	if len(p.Days) == 0 {
		return api.ErrState
	}
	today := p.Days[0]
	if !has(today.Rain.Lo, today.Rain.Hi, rain) {
		return api.ErrRange
	}
	amount, cost := modelBest(*p, 0, p.Start.Lo, map[[2]int]int{})
	if cost == never {
		return api.ErrFail
	}
	level := p.Start.Lo + rain - today.Seep - amount
	p.Start = polder.Range{Lo: level, Hi: level}
	p.Days = p.Days[1:]
	m.Paid += modelPrice(today, amount)
	return api.OK
}

func modelPrice(d polder.Day, amount int) int {
	cost := 0
	for ; amount > 0; amount-- {
		cost += d.Out
	}
	for ; amount < 0; amount++ {
		cost += d.In
	}
	return cost
}

// never is the cost of a level that cannot be held.
const never = -1

// modelBest looks at all amounts and all rain. What it knows has the costs by day and
// level.
func modelBest(p polder.Polder, day, level int, known map[[2]int]int) (amount, cost int) {
	cost = never
	for moved := -p.Inlet; moved <= p.Pump; moved++ {
		worst := 0
		for rain := p.Days[day].Rain.Lo; rain <= p.Days[day].Rain.Hi && worst != never; rain++ {
			next := modelCost(p, day+1, level+rain-p.Days[day].Seep-moved, known)
			worst = max(worst, next)
			if next == never {
				worst = never
			}
		}
		if worst == never {
			continue
		}
		if all := worst + modelPrice(p.Days[day], moved); cost == never || all < cost {
			amount, cost = moved, all
		}
	}
	return amount, cost
}

func modelCost(p polder.Polder, day, level int, known map[[2]int]int) int {
	if !has(p.Low, p.High, level) {
		return never
	}
	if day == len(p.Days) {
		return 0
	}
	at := [2]int{day, level}
	if _, is := known[at]; !is {
		_, known[at] = modelBest(p, day, level, known)
	}
	return known[at]
}

// report is the text of the model; it asks package clone for the stocks.
func (m *model) report() string {
	var b strings.Builder
	for stock := 1; stock <= 999; stock++ {
		if s, e := clone.Tell(m.Messages, stock, 3000); e == api.OK && s.There {
			fmt.Fprintf(&b, "stock %d clones %d sure %d\n", stock, len(s.May), len(s.Sure))
		}
	}
	orphans, _ := clone.Orphans(m.Messages)
	left := 0
	for _, l := range m.Licences {
		left += l.Bulbs
	}
	for _, u := range m.Uses {
		left -= u.Bulbs
	}
	fmt.Fprintf(&b, "orphans %d\nleft %d\n", len(orphans), left)
	for kind := range m.Lot.Looks {
		x := modelRange(m.Lot, kind)
		fmt.Fprintf(&b, "kind %d %d..%d\n", kind, x.Lo, x.Hi)
	}
	sold := 0
	for _, x := range m.Sales {
		sold += x.Plants
	}
	level, days := m.Polder.Start.Lo, len(m.Polder.Days)
	fmt.Fprintf(&b, "sold %d\nwater %d days %d paid %d\n", sold, level, days, m.Paid)
	if cost := modelCost(m.Polder, 0, level, map[[2]int]int{}); days > 0 && cost != never {
		fmt.Fprintf(&b, "cost %d\n", cost)
	}
	return b.String()
}

// accepted are the lines that were accepted.
func (m *model) accepted(lines []string) []string {
	var l []string
	for n, line := range lines {
		if m.errors[n] == api.OK {
			l = append(l, line)
		}
	}
	return l
}

// modelRecord is the record of a line.
func modelRecord(number int, line string) string {
	check := 3 + number
	for _, b := range []byte(line) {
		check = (check*31 + int(b) + 11) % 999983
	}
	return fmt.Sprintf("<%04d%04d%06d>%s\n", len(line), 9999-len(line), check, line)
}

func modelFile(lines []string) string {
	file := ""
	for n, line := range lines {
		file += modelRecord(n, line)
	}
	return file
}

// modelRecover tries each length of the next line.
func modelRecover(b string) (lines []string, read int) {
	for len(lines) < 50 {
		found := false
		for length := 0; length <= 200 && !found && read+17+length <= len(b); length++ {
			line := b[read+16 : read+16+length]
			if found = strings.HasPrefix(b[read:], modelRecord(len(lines), line)); found {
				lines = append(lines, line)
				read += 17 + length
			}
		}
		if !found {
			break
		}
	}
	return lines, read
}

// maker makes a random session line by line, and knows a truth of its lot.
type maker struct {
	*rand.Rand
	*model
	truth   [][]int
	numbers int // of the messages; if they are many, most messages are new ones
}

func (m *maker) from(low, high int) int { return low + m.Intn(high-low+1) }

// wordsOf are the words that a session is mostly about.
var wordsOf = [][]string{
	{"seed", "offset", "sport", "join"},
	{"licence", "use", "use"},
	{"kind", "part", "look", "look", "look", "sell"},
	{"polder", "day", "day", "rain", "rain"},
}

// randomSession is about one thing, or about some or all.
func randomSession(r *rand.Rand) []string {
	m := &maker{Rand: r, model: modelRun(nil), numbers: []int{60, api.MaxNumber}[r.Intn(2)]}
	var words []string
	for about, some := range wordsOf {
		if m.Intn(2) == 0 || about == len(wordsOf)-1 && words == nil {
			words = append(words, some...)
		}
	}
	var lines []string
	for range min(api.MaxSession, m.Intn(75)) {
		line := m.randomLine(words[m.Intn(len(words))])
		switch {
		case m.Intn(25) == 0:
			line = m.scratched(line)
		case m.Intn(25) == 0 && len(lines) > 0:
			line = lines[m.Intn(len(lines))]
		}
		m.enter(line)
		m.knowTruth()
		lines = append(lines, line)
	}
	return lines
}

// knowTruth keeps a mix for each part.
func (m *maker) knowTruth() {
	if len(m.Lot.Parts) < len(m.truth) {
		m.truth = nil
	}
	if len(m.Lot.Parts) > len(m.truth) {
		mix := make([]int, len(m.Lot.Looks))
		usual := m.Intn(len(mix))
		for range m.Lot.Parts[len(m.truth)].Plants {
			kind := usual
			if m.Intn(4) == 0 {
				kind = m.Intn(len(mix))
			}
			mix[kind]++
		}
		m.truth = append(m.truth, mix)
	}
}

func (m *maker) randomLine(word string) string {
	number, year, stock := m.from(1, m.numbers), m.from(0, 9), m.from(1, 9)
	from := 1 + (stock+m.Intn(8))%9 // another stock
	switch word {
	case "seed":
		return fmt.Sprintf("seed %d %d %d %d", number, year, stock, m.from(1, 3))
	case "offset", "join":
		return fmt.Sprintf("%s %d %d %d %d", word, number, year, stock, from)
	case "sport":
		return fmt.Sprintf("sport %d %d %d %d %d", number, year, stock, from, m.from(1, 3))
	case "licence":
		day := m.from(0, 20)
		return fmt.Sprintf("licence %d %d %d %d", m.Intn(2), day, day+m.from(0, 15), m.from(0, 90))
	case "use":
		return fmt.Sprintf("use %d %d %d", m.Intn(2), m.from(0, 25), m.from(0, 40))
	case "kind":
		return fmt.Sprintf("kind %d %d", m.Intn(4), m.Intn(2))
	case "part":
		return fmt.Sprintf("part %d", min(m.from(0, 20), m.from(0, 20)))
	case "look":
		return m.randomLook()
	case "sell":
		return m.randomSell()
	}
	return m.randomWater(word)
}

// randomLook mostly tells of the truth.
func (m *maker) randomLook() string {
	if len(m.truth) == 0 {
		return "look 0 0 0 0 0 0"
	}
	part, trait := m.Intn(len(m.truth)), m.Intn(2)
	mix := m.truth[part]
	if m.Intn(6) == 0 {
		mix = slices.Clone(mix)
		m.Shuffle(len(mix), func(i, j int) { mix[i], mix[j] = mix[j], mix[i] })
	}
	seen := modelSeen(m.Lot, trait, mix)
	if m.Intn(12) == 0 {
		m.Shuffle(4, func(i, j int) { seen[i], seen[j] = seen[j], seen[i] })
	}
	if m.Intn(20) == 0 {
		seen[m.Intn(4)]++
	}
	return fmt.Sprintf("look %d %d %d %d %d %d", part, trait, seen[0], seen[1], seen[2], seen[3])
}

// randomSell asks for about as much as there is.
func (m *maker) randomSell() string {
	kinds, plants := len(m.Lot.Looks), plantsOf(m.Lot)
	if kinds == 0 || plants == 0 {
		return fmt.Sprintf("sell 0 %d", m.from(1, 1000))
	}
	kind := m.Intn(kinds)
	if m.Intn(3) > 0 {
		for other := range kinds {
			if modelRange(m.Lot, other).Lo > modelRange(m.Lot, kind).Lo {
				kind = other
			}
		}
	}
	return fmt.Sprintf("sell %d %d", kind, modelRange(m.Lot, kind).Lo*1000/plants+m.Intn(2))
}

func (m *maker) randomWater(word string) string {
	low, p := m.Intn(40), m.Polder
	high := low + m.Intn(20)
	switch word {
	case "polder":
		return fmt.Sprintf("polder %d %d %d %d %d", low, high, m.from(low, high), m.Intn(8), m.Intn(6))
	case "day":
		rain := m.Intn(8)
		most := rain + m.Intn(1+min(9, max(1, p.High-p.Low)))
		return fmt.Sprintf("day %d %d %d %d %d", rain, most, m.from(rain, most), m.Intn(9), m.Intn(9))
	}
	if len(p.Days) == 0 || m.Intn(8) == 0 {
		return fmt.Sprintf("rain %d", m.Intn(16))
	}
	return fmt.Sprintf("rain %d", m.from(p.Days[0].Rain.Lo, p.Days[0].Rain.Hi))
}

// scratched is the line with another number, or with other bytes.
func (m *maker) scratched(line string) string {
	words := strings.Split(line, " ")
	if m.Intn(3) > 0 {
		strange := []int{-1, 0, 1, 4, 13, 21, 61, 100, 101, 1000, 3001, 10000, 100001, 1000001, 999999999, -999999999}
		words[m.from(1, len(words)-1)] = strconv.Itoa(strange[m.Intn(len(strange))])
		return strings.Join(words, " ")
	}
	const some = "0123456789 -+az\n\x00\xff"
	b, at := []byte(line), m.Intn(len(line))
	switch m.Intn(3) {
	case 0:
		b[at] = some[m.Intn(len(some))]
	case 1:
		b = slices.Delete(b, at, at+1)
	case 2:
		b = slices.Insert(b, at, some[m.Intn(len(some))])
	}
	return string(b)
}

// eachSession calls a test with random sessions.
func eachSession(t *testing.T, n int, test func(r *rand.Rand, lines []string)) {
	t.Helper()
	r := rand.New(rand.NewSource(12))
	for range n {
		test(r, randomSession(r))
		if t.Failed() {
			return
		}
	}
}

// TestRandomSessions asks whether the random sessions have what the other tests are
// about at all.
func TestRandomSessions(t *testing.T) {
	counts := map[string]int{}
	eachSession(t, 1500, func(_ *rand.Rand, lines []string) {
		m := modelRun(lines)
		for n, line := range lines {
			word, _, _ := strings.Cut(line, " ")
			if m.errors[n] == api.ErrForm {
				word = "any"
			}
			counts[fmt.Sprint(word, " ", m.errors[n])]++
		}
		_, e := polder.Least(m.Polder)
		for _, x := range []struct {
			name string
			is   bool
		}{{"full", len(lines) == api.MaxSession}, {"sold twice", len(m.Sales) > 1}, {"paid", m.Paid > 0}, {"with a cost", e == api.OK}} {
			if x.is {
				counts[x.name]++
			}
		}
	})
	want := map[string][]api.Errno{
		"any":     {api.ErrForm},
		"licence": {api.OK, api.ErrLimit, api.ErrArg},
		"use":     {api.OK, api.ErrLimit, api.ErrArg, api.ErrDebt},
		"kind":    {api.OK, api.ErrState, api.ErrArg},
		"part":    {api.OK, api.ErrState, api.ErrLimit, api.ErrArg},
		"look":    {api.OK, api.ErrRange, api.ErrArg, api.ErrFail},
		"sell":    {api.OK, api.ErrState, api.ErrRange, api.ErrName},
		"polder":  {api.OK, api.ErrState, api.ErrArg},
		"day":     {api.OK, api.ErrLimit, api.ErrArg},
		"rain":    {api.OK, api.ErrState, api.ErrRange, api.ErrFail},
	}
	for _, word := range wordsOf[0] {
		want[word] = []api.Errno{api.OK, api.ErrTwice, api.ErrArg, api.ErrLimit}
	}
	for word, errors := range want {
		for _, e := range errors {
			if counts[fmt.Sprint(word, " ", e)] < 5 {
				t.Errorf("%s: %v is there %d times", word, e, counts[fmt.Sprint(word, " ", e)])
			}
		}
	}
	for _, name := range []string{"full", "sold twice", "paid", "with a cost"} {
		if counts[name] < 20 {
			t.Errorf("%s: %d", name, counts[name])
		}
	}
}

package clone

import (
	"bytes"
	"strconv"
	"strings"

	"bybloem/api"
)

// headWords is how many words every line has: Number, Year, word and Stock.
const headWords = 4

// fileOf returns the file of messages that are in their order, each once.
func fileOf(l []Message) []byte {
	var b []byte
	for _, m := range l {
		b = append(b, lineOf(m.words()...)...)
	}
	return b
}

// lineOf returns the line of the words.
func lineOf(words ...string) string { return strings.Join(words, " ") + "\n" }

// words returns the words of the line of a message.
func (m Message) words() []string {
	all := kinds()
	words := []string{strconv.Itoa(m.Number), strconv.Itoa(m.Year), all[m.Kind].word, strconv.Itoa(m.Stock)}
	for _, n := range m.tail() {
		words = append(words, strconv.Itoa(*n))
	}
	return words
}

// tail returns the places of the numbers that a line of this kind has behind
// its Stock.
func (m *Message) tail() []*int {
	var places []*int
	k := kinds()[m.Kind]
	if k.from {
		places = append(places, &m.From)
	}
	if k.what {
		places = append(places, &m.What)
	}
	return places
}

// readFile returns the messages of a file. It panics with the error of bytes
// that are none.
func readFile(b []byte) []Message {
	var l []Message
	for line := range strings.Lines(string(b)) {
		l = append(l, readLine(strings.Split(strings.TrimSuffix(line, "\n"), " ")...))
	}
	// One text may say the same in several ways, but only one of them is the file.
	if file, e := Write(l); e != api.OK || !bytes.Equal(file, b) {
		panic(api.ErrForm)
	}
	return l
}

// readLine returns the message that a line of these words tells.
func readLine(words ...string) Message {
	if len(words) < headWords {
		panic(api.ErrForm)
	}
	m := Message{Number: readNumber(words[0]), Year: readNumber(words[1]), Kind: readKind(words[2]), Stock: readNumber(words[3])}
	tail := m.tail()
	if len(words) != headWords+len(tail) {
		panic(api.ErrForm)
	}
	for i, place := range tail {
		*place = readNumber(words[headWords+i])
	}
	return m
}

// readNumber returns the number that a word of a line tells.
func readNumber(word string) int {
	n, err := strconv.Atoi(word)
	if err != nil {
		panic(api.ErrForm)
	}
	return n
}

// readKind returns the kind that has this word.
func readKind(word string) uint8 {
	for number, k := range kinds() {
		if k.word == word {
			return uint8(number)
		}
	}
	panic(api.ErrForm)
}

// whyLeft returns the error with which a line was left. A call of the chapter
// never panics, so that anything else makes the bytes no file as well.
func whyLeft(left any) api.Errno {
	if e, ok := left.(api.Errno); ok {
		return e
	}
	return api.ErrForm
}

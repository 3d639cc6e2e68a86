package clock

import (
	"bytes"
	"strconv"
	"strings"

	"bybloem/api"
)

// line is the numbers of a line of the file.
type line [5]int

func lineOf(s Sale) line { return line{s.Lot, s.Tick, s.Buyer, s.Units, s.Price} }

func (l line) sale() Sale {
	return Sale{Lot: l[0], Tick: l[1], Buyer: l[2], Units: l[3], Price: l[4]}
}

// fileOf returns the file of a list of sales that it may have.
func fileOf(sales []Sale) []byte {
	var b []byte
	for _, s := range sales {
		for n, number := range lineOf(s) {
			if n > 0 {
				b = append(b, ' ')
			}
			b = strconv.AppendInt(b, int64(number), 10)
		}
		b = append(b, '\n')
	}
	return b
}

// readFile returns the sales of a file. It panics with the error of bytes that
// are none.
func readFile(b []byte) []Sale {
	var sales []Sale
	for text := range strings.Lines(string(b)) {
		sales = append(sales, readLine(strings.TrimSuffix(text, "\n")).sale())
	}
	// One text may say the same in several ways, but only one of them is the file.
	if !isList(sales) || !bytes.Equal(fileOf(sales), b) {
		panic(api.ErrForm)
	}
	return sales
}

// readLine returns the numbers of the text of a line.
func readLine(text string) line {
	var l line
	words := strings.Split(text, " ")
	if len(words) != len(l) {
		panic(api.ErrForm)
	}
	for n, word := range words {
		number, err := strconv.Atoi(word)
		if err != nil {
			panic(api.ErrForm)
		}
		l[n] = number
	}
	return l
}

// whyLeft returns the error with which a line was left. A call of the chapter
// never panics, so that anything else makes the bytes no file as well.
func whyLeft(left any) api.Errno {
	if e, ok := left.(api.Errno); ok {
		return e
	}
	return api.ErrForm
}
